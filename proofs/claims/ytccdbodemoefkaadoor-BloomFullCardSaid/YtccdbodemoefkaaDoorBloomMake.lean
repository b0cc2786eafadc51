/-
  The contracts of the program's Make, over the plain filter. Condition: at most 65536 keys where a filter is made, and texts of a length that there is.
-/
import Derived.Test.YtccdbodemoefkaaDoorBloomHas
import Derived.Test.YtccdbodemoefkaaDoorTextsArg
import Derived.Test.YtccdbodemoefkaaDoorHolds
namespace Go.Proofs.YtccdbodemoefkaaDoor
set_option maxRecDepth 100000
open Go.RowKit
theorem info8b : (Tryd.prog.info? 5).map (fun i => (i.zero, i.size, i.bytes)) = some (some (.int .u8 0), 1, 1) := by kernel_rfl
theorem or_code (c : UInt8) (q : Nat) (hq : q < 8) : bits .or .u8 (c.toNat : Int) (2 ^ q % 256) = ((c ||| Blm.bit q).toNat : Int) := by
  have : ∀ (c : Fin 256) (q : Fin 8), bits .or .u8 (c.val : Int) (2 ^ q.val % 256) = ((UInt8.ofNat c.val ||| Blm.bit q.val).toNat : Int) := by decide +kernel
  have := this ⟨c.toNat, UInt8.toNat_lt c⟩ ⟨q, hq⟩
  simpa using this
/-- What stands while bits are set. -/
structure Fill (w0 : World) (g g2 : Nat) (n : Nat) (hd : UInt8) (l : List UInt8) (u : World) : Prop where
  below : Below w0.heap.size w0 u
  hold : Holds8 u g (hd :: l)
  size : l.length = n
  box : Boxed u g2 31 (.slice (some ⟨g, 1, none⟩) n n)
  lo : w0.heap.size ≤ g
  lt : g < g2
theorem Fill.grow {w0 u u' : World} {g g2 n : Nat} {hd : UInt8} {l : List UInt8} (h : Fill w0 g g2 n hd l u) (hb : Below u.heap.size u u') : Fill w0 g g2 n hd l u' :=
  ⟨h.below.trans (hb.mono h.below.size), holds8_below hb (by have := h.box.lt; have := h.lt; omega) h.hold, h.size, (hb.block g2 h.box.lt).trans h.box, h.lo, h.lt⟩
theorem Fill.put {w0 u : World} {g g2 n : Nat} {hd : UInt8} {l : List UInt8} (h : Fill w0 g g2 n hd l u) (p : Nat) (hp : p < l.length) (c : UInt8) : Fill w0 g g2 n hd (l.set p c) (u.setCell ⟨g, 1 + p, none⟩ (.int .u8 (c.toNat : Int))) := by
  rw [Nat.add_comm 1 p]
  exact ⟨h.below.setCell h.lo _, holds8_set h.hold (p + 1) (by simp; omega) c, by simp [h.size], (Below.heap_setCell u _ _ g2 (Nat.ne_of_gt h.lt)).trans h.box, h.lo, h.lt⟩
theorem fillClo_any (w0 : World) (g g2 n : Nat) (hd : UInt8) (l : List UInt8) (u : World) (h : Fill w0 g g2 n hd l u) (hn : n ≤ 268435456) (p q : Nat) (hp : p < n) (hq : q < 8) :
    Calls Tryd.prog 20 #[.int .u32 (p : Int), .int .u32 (q : Int), .pointer (some ⟨g2, 0, none⟩)] u fun e w' => e = .returned (.bool true) ∧ Fill w0 g g2 n hd (l.set p (l[p]?.getD 0 ||| Blm.bit q)) w' := by
  have hpl : p < l.length := by rw [h.size]; exact hp
  have x1 := h.box.cell
  obtain ⟨x2, x3⟩ := h.hold (p + 1) (by simp; omega)
  rw [List.getElem_cons_succ] at x2
  have ec : (⟨g, p + 1, none⟩ : Addr) = ⟨g, 1 + p, none⟩ := by rw [Nat.add_comm]
  rw [ec] at x2 x3
  rw [List.getElem?_eq_getElem hpl, Option.getD_some]
  obtain ⟨c, hc⟩ := named l[p]
  rw [← hc.out] at x2 ⊢
  have ho := or_code c q hq
  have P := Lib.hid (h.put p hpl (c ||| Blm.bit q))
  have i1 : (p : Int) < (n : Int) := by omega
  have i2 : (0 : Int) ≤ (p : Int) := by omega
  have i3 : (q : Int) < 8 := by omega
  have i4 : (0 : Int) ≤ (q : Int) := by omega
  clear h hc
  go_enter Tryd.func20, Tryd.ntmps20
  go_wp2
  go_returns
  exact ⟨rfl, P.out⟩
theorem fillClo_enters : ∀ (args : Array Value) (w : World), (callFunc 20 args).run Tryd.prog w = .ok (.enter 20 args) w := enters_of Tryd.func20 (by kernel_rfl) rfl
theorem fill_key (key : ByteArray) (hkey : key.size ≤ maxLen) (k : Nat) (hk : k ≤ 1000) (w0 : World) (g g2 n : Nat) (hn : 0 < n) (hn2 : n ≤ 268435456) (hd : UInt8) (l : List UInt8) (w : World) (h : Fill w0 g g2 n hd l w) :
    Calls Tryd.prog 14 #[.string key, .int .i64 (k : Int), .int .i64 (n : Int), .func (.func 20) #[] #[.pointer (some ⟨g2, 0, none⟩)]] w fun e w' => e = .returned (.tuple #[]) ∧ Fill w0 g g2 n hd (Blm.addK (8 * n) key.data.toList k l) w' := by
  refine (probe_any key hkey k n hk hn hn2 20 _ fillClo_enters w
    (fun i u => Fill w0 g g2 n hd (Blm.addK (8 * n) key.data.toList i l) u) (fun _ => False) (fun u hb => h.grow hb) ?_).mono ?_
  · rintro i u hi hl
    have hp := Blm.pos_lt (m := 8 * n) (by omega) key.data.toList i
    refine (fillClo_any w0 g g2 n hd _ u hl hn2 (Blm.pos (8 * n) key.data.toList i / 8) (Blm.pos (8 * n) key.data.toList i % 8) (by omega) (by omega)).mono ?_
    rintro e w' ⟨rfl, h'⟩
    exact ⟨true, rfl, fun _ => h', fun e => by cases e⟩
  · rintro e w' ⟨rfl, h' | h'⟩
    · exact ⟨rfl, h'⟩
    · exact h'.elim
set_option maxHeartbeats 4000000 in
theorem filter_any (bits : Nat) (hb1 : 1 ≤ bits) (hb2 : bits ≤ 32) (a : Option Addr) (n c b o : Nat) (X : List ByteArray) (w : World) (ht : TextsAt a n c b o X w) (hX : ∀ x ∈ X, x.size ≤ maxLen) (hn : n ≤ 65536) :
    Calls Tryd.prog 17 #[.int .i64 (bits : Int), .slice a n c] w fun e w' => e = .returned (.string ⟨(Blm.text (X.map fun x => x.data.toList) bits).toArray⟩) ∧ Below w.heap.size w w' := by
  obtain ⟨W8, hW8⟩ := named (Blm.wide n bits)
  obtain ⟨K, hK⟩ := named (Blm.probes bits)
  have w1 : 8 ≤ W8 := by rw [hW8.out]; exact Blm.wide_pos _ _
  have w2 : W8 ≤ 262144 := by rw [hW8.out]; exact Blm.wide_le _ _ hn hb2
  have k1 : 1 ≤ K := by rw [hK.out]; exact Blm.probes_pos _
  have k2 : K ≤ 22 := by rw [hK.out]; exact Blm.probes_le _ hb2
  have hmul : n * bits ≤ 65536 * 32 := Nat.mul_le_mul hn hb2
  obtain ⟨P, hP⟩ := named (n * bits)
  rw [← hP.out] at hmul
  have hPi : (n : Int) * (bits : Int) = (P : Int) := by rw [hP.out]; push_cast; rfl
  have e1 : ∀ (ts : Array TypeId) (t : TypeId) (u : World), (Builtin.max_ ts t #[.int .i64 ((bits : Int) * 7 / 10), .int .i64 1]).run Tryd.prog u = .ok (.int .i64 (K : Int)) u := by
    intro ts t u
    rw [run_max_int2, hK.out]
    have e : (if (1 : Int) > (bits : Int) * 7 / 10 then (1 : Int) else (bits : Int) * 7 / 10) = ((Blm.probes bits : Nat) : Int) := by unfold Blm.probes; split <;> omega
    rw [e]
  have e2 : ∀ (ts : Array TypeId) (t : TypeId) (u : World), (Builtin.max_ ts t #[.int .i64 (((P : Int) + 7) / 8), .int .i64 8]).run Tryd.prog u = .ok (.int .i64 (W8 : Int)) u := by
    intro ts t u
    rw [run_max_int2, hW8.out]
    have e : (if (8 : Int) > ((P : Int) + 7) / 8 then (8 : Int) else ((P : Int) + 7) / 8) = ((Blm.wide n bits : Nat) : Int) := by unfold Blm.wide; rw [← hP.out]; split <;> omega
    rw [e]
  obtain ⟨i0, hi, hz0, hz1, hz2⟩ := info_parts info8b
  have hmk : ∀ u : World, (Instr.makeSlice 31 (.int .i64 (1 + (W8 : Int))) (.int .i64 (1 + (W8 : Int)))).run Tryd.prog u =
      .ok (.slice (some ⟨u.heap.size, 0, none⟩) (W8 + 1) (W8 + 1)) (u.alloc (.cells (madeCells #[.int .u8 0] (W8 + 1)) 5)) := fun u => by
    have h := run_make (P := Tryd.prog) u 31 5 i0 (.int .u8 0) Tryd.underlying31 hi hz0 .i64 .i64 (1 + (W8 : Int)) (1 + (W8 : Int)) (by omega) (Int.le_refl _) (by rw [hz2]; omega) (by omega)
    rw [show (1 + (W8 : Int)).toNat = W8 + 1 by omega] at h
    simpa [hz1, Value.cells] using h
  clear hi hz0 hz1 hz2
  go_enter Tryd.func17, Tryd.ntmps17
  go_upto_region 3 with fail
  have z1 := holds8_zeros w (W8 + 1)
  have z2 := below_alloc w (.cells (madeCells #[.int .u8 0] (W8 + 1)) 5)
  have z3 : w.heap.size < (w.alloc (.cells (madeCells #[.int .u8 0] (W8 + 1)) 5)).heap.size := by simp
  generalize w.alloc (.cells (madeCells #[.int .u8 0] (W8 + 1)) 5) = W1 at z1 z2 z3 ⊢
  obtain ⟨y1, y2⟩ := z1 0 (by simp)
  rw [List.getElem_replicate] at y1
  have hK8 : (K : Int) = ((UInt8.ofNat K).toNat : Int) := by
    rw [UInt8.toNat_ofNat']; omega
  have z4 := holds8_set z1 0 (by simp) (UInt8.ofNat K)
  rw [← hK8, List.replicate_succ, List.set_cons_zero] at z4
  have Z1 := Lib.hid z4
  have Z2 := Lib.hid (z2.setCell (p := ⟨w.heap.size, 0, none⟩) (Nat.le_refl _) (.int .u8 (K : Int)))
  have Z3 : Hid (w.heap.size < (W1.setCell ⟨w.heap.size, 0, none⟩ (.int .u8 (K : Int))).heap.size) := Lib.hid (by simpa using z3)
  clear z1 z2 z3 z4 hK8 hmk e1 e2
  go_upto_region 5 with fail
  obtain ⟨g2, hg2⟩ := named W1.heap.size
  have F : Hid (Fill w w.heap.size g2 W8 (UInt8.ofNat K) (Blm.filt K W8 ((X.take 0).map fun x => x.data.toList)) ((W1.setCell ⟨w.heap.size, 0, none⟩ (.int .u8 (K : Int))).alloc (.cells #[.slice (some ⟨w.heap.size, 1, none⟩) W8 W8] 31))) := by
    have hs : (W1.setCell ⟨w.heap.size, 0, none⟩ (.int .u8 (K : Int))).heap.size = W1.heap.size := by simp
    have z3 : w.heap.size < W1.heap.size := by rw [← hs]; exact Z3.out
    refine Lib.hid ⟨Z2.out.alloc (by rw [hs]; omega) _, ?_, Blm.filt_length _ _ _, ?_, Nat.le_refl _, by rw [hg2.out]; exact z3⟩
    · exact holds8_alloc (w := W1.setCell ⟨w.heap.size, 0, none⟩ (.int .u8 (K : Int))) (l := UInt8.ofNat K :: List.replicate W8 0) Z1.out (by rw [hs]; exact z3) _
    · have := Boxed.new (W1.setCell ⟨w.heap.size, 0, none⟩ (.int .u8 (K : Int))) 31 (.slice (some ⟨w.heap.size, 1, none⟩) W8 W8)
      rw [hs, ← hg2.out] at this
      exact this
  rw [← hg2.out]
  generalize (W1.setCell ⟨w.heap.size, 0, none⟩ (.int .u8 (K : Int))).alloc (.cells #[.slice (some ⟨w.heap.size, 1, none⟩) W8 W8] 31) = W2 at F ⊢
  clear Z1 Z2 Z3 y1 y2 hg2
  have hXl : X.length = n := ht.len
  have HT := Lib.hid ht
  have HX := Lib.hid hX
  have HL := Lib.hid hXl
  have CK := Lib.hid (fun (key : ByteArray) (hkey : key.size ≤ maxLen) (l : List UInt8) (u : World) (h : Fill w w.heap.size g2 W8 (UInt8.ofNat K) l u) => Lib.hid (fill_key key hkey K (by omega) w w.heap.size g2 W8 (by omega) (by omega) (UInt8.ofNat K) l u h))
  clear ht hX hXl
  go_wp2
  go_loopw [31] (fun d wr => ∃ i : Nat, i ≤ n ∧ d = .int .i64 i ∧ Hid (Fill w w.heap.size g2 W8 (UInt8.ofNat K) (Blm.filt K W8 ((X.take i).map fun x => x.data.toList)) wr)) (fun d _ => n - (intOf d).toNat)
  case atStart => exact ⟨0, by omega, rfl, F⟩
  case round =>
    obtain ⟨i, hi, rfl, hF⟩ := hrel
    by_cases hlt : i < n
    · have hiX : i < X.length := by rw [HL.out]; exact hlt
      have hc := HT.out.cell hiX
      obtain ⟨ha, hbl⟩ := HT.out.addr (by omega)
      have hc' := (hF.out.below.cell (p := ⟨b, o + i, none⟩) hbl).trans hc
      obtain ⟨x, hx⟩ := named X[i]
      rw [← hx.out] at hc'
      have hxs : x.size ≤ maxLen := HX.out x (by rw [hx.out]; exact List.getElem_mem hiX)
      have C := CK.out x hxs _ wr hF.out
      have i1 : (i : Int) < (n : Int) := by omega
      have i2 : (0 : Int) ≤ (i : Int) := by omega
      have x1 := hF.out.box.cell
      have hnext : Hid (Blm.filt K W8 ((X.take (i + 1)).map fun x => x.data.toList) = Blm.addK (8 * W8) x.data.toList K (Blm.filt K W8 ((X.take i).map fun x => x.data.toList))) := by
        rw [List.take_succ_eq_append_getElem hiX, List.map_append, List.map_singleton, Blm.filt_snoc, ← hx.out]
        exact Lib.hid rfl
      subst ha
      clear hc hbl hxs
      go_wp2_with (go_at_call 14; ((with_reducible refine C.out.mono ?_); rintro e w3 ⟨rfl, f3⟩))
      go_roundw
      case rel => exact ⟨i + 1, by omega, by go_num, by rw [hnext.out]; exact Lib.hid f3⟩
      case measure => simp [intOf]; omega
    · obtain rfl : i = n := by omega
      have hcv := holds8_text hF.out.hold (W8 + 1) (W8 + 1) (by rw [List.length_cons, hF.out.size])
      have hti : X.take i = X := List.take_of_length_le (by rw [HL.out]; exact Nat.le_refl _)
      rw [hti] at hcv
      clear hti
      have hB := Lib.hid hF.out.below
      have hend : Hid (UInt8.ofNat K :: Blm.filt K W8 (X.map fun x => x.data.toList) = Blm.text (X.map fun x => x.data.toList) bits) := by
        unfold Blm.text
        rw [← hK.out, List.length_map, HL.out, ← hW8.out]
        exact Lib.hid rfl
      rw [hend.out] at hcv
      obtain ⟨T, hT⟩ := named (Blm.text (X.map fun x => x.data.toList) bits)
      rw [← hT.out] at hcv
      go_wp2
      go_returns
      exact ⟨by rw [← hT.out]; rfl, hB.out⟩
theorem make_good (bits : Nat) (hb1 : 1 ≤ bits) (hb2 : bits ≤ 32) (a : Option Addr) (n c b o : Nat) (X : List ByteArray) (w : World) (ht : TextsAt a n c b o X w) (hX : ∀ x ∈ X, x.size ≤ maxLen) (hn : n ≤ 65536) :
    Calls Tryd.prog 13 #[.slice a n c, .int .i64 (bits : Int)] w fun e w' => e = .returned (.tuple #[.string ⟨(Blm.text (X.map fun x => x.data.toList) bits).toArray⟩, .int .i64 0]) ∧ Below w.heap.size w w' := by
  have C := Lib.hid (filter_any bits hb1 hb2 a n c b o X w ht hX hn)
  clear ht hX
  go_enter Tryd.func13, Tryd.ntmps13
  go_wp2_with (go_at_call 17; ((with_reducible refine C.out.mono ?_); rintro e w1 ⟨rfl, hb⟩))
  go_returns
  exact ⟨rfl, hb⟩
theorem make_arg (bits : Int) (hb : bits < 1 ∨ 32 < bits) (v : Value) (w : World) :
    Calls Tryd.prog 13 #[v, .int .i64 bits] w fun e w' => e = .returned (.tuple #[.string ⟨#[]⟩, .int .i64 2]) ∧ w' = w := by
  rcases hb with h | h
  · go_enter Tryd.func13, Tryd.ntmps13
    go_wp2
    go_returns
    exact ⟨rfl, rfl⟩
  · have h1 : 1 ≤ bits := by omega
    go_enter Tryd.func13, Tryd.ntmps13
    go_wp2
    go_returns
    exact ⟨rfl, rfl⟩
end Go.Proofs.YtccdbodemoefkaaDoor
