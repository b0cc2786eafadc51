/-
  The contract of the document's own Make, over the plain filter. Condition: as the program's.
-/
import Derived.Test.YtccdbodemoefkaaBloomRef
namespace Go.Proofs.Ytccdbodemoefkaa
set_option maxRecDepth 100000
open Go.RowKit
theorem text_join (c : UInt8) (l : List UInt8) : (ByteArray.mk #[c]) ++ (ByteArray.mk l.toArray) = ⟨(c :: l).toArray⟩ := by
  apply ByteArray.ext
  rw [ByteArray.data_append]
  simp
theorem holds8_one (w : World) (c : UInt8) (t : TypeId) : Holds8 (w.alloc (.cells #[.int .u8 (c.toNat : Int)] t)) w.heap.size [c] := by
  intro q hq
  have h0 : q = 0 := by simp at hq; omega
  subst h0
  exact ⟨by rw [World.cell?_alloc_new]; rfl, World.frozen?_alloc_at _ _ _ _ rfl⟩
/-- What stands while the document's bits are set. -/
structure Bits0 (w0 : World) (g n : Nat) (l : List UInt8) (u : World) : Prop where
  below : Below w0.heap.size w0 u
  hold : Holds8 u g l
  size : l.length = n
  lo : w0.heap.size ≤ g
  lt : g < u.heap.size
theorem Bits0.put {w0 u : World} {g n : Nat} {l : List UInt8} (h : Bits0 w0 g n l u) (p : Nat) (hp : p < l.length) (c : UInt8) : Bits0 w0 g n (l.set p c) (u.setCell ⟨g, p, none⟩ (.int .u8 (c.toNat : Int))) :=
  ⟨h.below.setCell h.lo _, holds8_set h.hold p hp c, by simp [h.size], h.lo, by simpa using h.lt⟩
set_option maxHeartbeats 8000000 in
theorem refmake_good (bits : Nat) (hb1 : 1 ≤ bits) (hb2 : bits ≤ 32) (a : Option Addr) (n c b o : Nat) (X : List ByteArray) (w : World) (ht : TextsAt a n c b o X w) (hX : ∀ x ∈ X, x.size ≤ maxLen) (hn : n ≤ 65536) :
    Calls Try.prog 8 #[.slice a n c, .int .i64 (bits : Int)] w fun e w' => e = .returned (.tuple #[.string (mkT X bits), .int .i64 0]) ∧ Below w.heap.size w w' := by
  obtain ⟨W8, hW8⟩ := named (Blm.wide n bits)
  obtain ⟨K, hK⟩ := named (Blm.probes bits)
  have w1 : 8 ≤ W8 := by rw [hW8.out]; exact Blm.wide_pos _ _
  have w2 : W8 ≤ 262144 := by rw [hW8.out]; exact Blm.wide_le _ _ hn hb2
  have k1 : 1 ≤ K := by rw [hK.out]; exact Blm.probes_pos _
  have k2 : K ≤ 22 := by rw [hK.out]; exact Blm.probes_le _ hb2
  have hmul : n * bits ≤ 65536 * 32 := Nat.mul_le_mul hn hb2
  obtain ⟨P, hP⟩ := named (n * bits)
  rw [← hP.out] at hmul
  have hPi : (n : Int) * (bits : Int) = (P : Int) := by rw [hP.out]; push_cast; rfl
  have kK : Hid ((K : Int) = if (bits : Int) * 7 / 10 = 0 then 1 else (bits : Int) * 7 / 10) := Lib.hid (by rw [hK.out]; unfold Blm.probes; split <;> omega)
  obtain ⟨M0, hM0⟩ := named (max P 64)
  have m1 : Hid (W8 = (M0 + 7) / 8 ∧ 64 ≤ M0 ∧ M0 ≤ 8 * W8) := Lib.hid (by rw [hW8.out, hM0.out]; unfold Blm.wide; rw [← hP.out]; omega)
  obtain ⟨i0, hi, hz0, hz1, hz2⟩ := info_parts info8b
  have hmk : ∀ u : World, (Instr.makeSlice 32 (.int .i64 (W8 : Int)) (.int .i64 (W8 : Int))).run Try.prog u =
      .ok (.slice (some ⟨u.heap.size, 0, none⟩) W8 W8) (u.alloc (.cells (madeCells #[.int .u8 0] W8) 5)) := fun u => by
    have h := run_make (P := Try.prog) u 32 5 i0 (.int .u8 0) Try.underlying32 hi hz0 .i64 .i64 (W8 : Int) (W8 : Int) (by omega) (Int.le_refl _) (by rw [hz2]; omega) (by omega)
    simpa [hz1, Value.cells] using h
  clear hi hz0 hz1 hz2
  have hXl : X.length = n := ht.len
  have HT := Lib.hid ht
  have HX := Lib.hid hX
  have HL := Lib.hid hXl
  clear ht hX hXl
  go_enter Try.func8, Try.ntmps8
  go_upto_if 25 with fail
  go_cut [6] from 25 to 25 (fun v wc => wc = w ∧ v = .int .i64 (K : Int))
  case first =>
    by_cases q : (bits : Int) * 7 / 10 = 0
    · have h := kK.out
      rw [if_pos q] at h
      have qb : ((bits : Int) * 7 / 10 == 0) = true := by rw [q]; rfl
      have h' := Lib.hid h
      clear h
      go_wp2_with fail
      go_meet
      exact ⟨rfl, by rw [h'.out]⟩
    · have h := kK.out
      rw [if_neg q] at h
      have qb : ((bits : Int) * 7 / 10 == 0) = false := beq_eq_false_iff_ne.2 q
      have h' := Lib.hid h
      clear h
      go_wp2_with fail
      go_meet
      exact ⟨rfl, by rw [h'.out]⟩
  case rest =>
  obtain ⟨rfl, rfl⟩ := hcut
  go_upto_if 31 with fail
  go_cut [7] from 31 to 31 (fun v wq => wq = wc ∧ v = .int .i64 (M0 : Int))
  case first =>
    by_cases q : (P : Int) < 64
    · have h' : Hid (M0 = 64) := Lib.hid (by rw [hM0.out]; omega)
      go_wp2_with fail
      go_meet
      exact ⟨rfl, by rw [h'.out]; rfl⟩
    · have h' : Hid (M0 = P) := Lib.hid (by rw [hM0.out]; omega)
      go_wp2_with fail
      go_meet
      exact ⟨rfl, by rw [h'.out]⟩
  case rest =>
  obtain ⟨rfl, rfl⟩ := hcut
  go_wp2
  go_loopw [7] (fun d wr => ∃ m : Nat, M0 ≤ m ∧ m ≤ 8 * W8 ∧ d = .int .i64 m ∧ wr = wc) (fun d _ => 8 * W8 - (intOf d).toNat)
  case atStart => exact ⟨M0, Nat.le_refl _, m1.out.2.2, rfl, rfl⟩
  case round =>
    obtain ⟨m, hm1, hm2, rfl, rfl⟩ := hrel
    by_cases q : (m : Int) % 8 = 0
    · have hm8 : Hid (m = 8 * W8) := Lib.hid (by have := m1.out; omega)
      have qb : ((m : Int) % 8 == 0) = true := by rw [q]; rfl
      have qd : (m : Int) / 8 = (W8 : Int) := by have := hm8.out; omega
      go_upto_region 14 with fail
      have z1 : Hid (Bits0 wr wr.heap.size W8 (Blm.filt K W8 ((X.take 0).map fun x => x.data.toList)) (wr.alloc (.cells (madeCells #[.int .u8 0] W8) 5))) :=
        Lib.hid ⟨below_alloc _ _, holds8_zeros wr W8, Blm.filt_length _ _ _, Nat.le_refl _, by simp⟩
      generalize wr.alloc (.cells (madeCells #[.int .u8 0] W8) 5) = W1 at z1 ⊢
      have BC := Lib.hid (fun (key : ByteArray) (hkey : key.size ≤ maxLen) (j : Nat) (hj : j ≤ 1000) (u : World) => Lib.hid (bit_any key hkey j (8 * W8) hj (by omega) (by omega) u))
      rw [← hm8.out] at BC
      obtain ⟨w0, hw0⟩ : ∃ w0 : World, Hid (w0 = wr) := ⟨_, Lib.hid rfl⟩
      rw [← hw0.out] at z1 HT ⊢
      clear hmk kK m1 q qb qd
      go_wp2
      go_loopw [9] (fun d wr => ∃ i : Nat, i ≤ n ∧ d = .int .i64 i ∧ Hid (Bits0 w0 w0.heap.size W8 (Blm.filt K W8 ((X.take i).map fun x => x.data.toList)) wr)) (fun d _ => n - (intOf d).toNat)
      case atStart => exact ⟨0, by omega, rfl, z1⟩
      case round =>
        obtain ⟨i, hi, rfl, hF⟩ := hrel
        by_cases hlt : i < n
        · have hiX : i < X.length := by rw [HL.out]; exact hlt
          have hc := HT.out.cell hiX
          obtain ⟨ha, hbl⟩ := HT.out.addr (by omega)
          obtain ⟨x, hx⟩ := named X[i]
          rw [← hx.out] at hc
          have hxs : x.size ≤ maxLen := HX.out x (by rw [hx.out]; exact List.getElem_mem hiX)
          have C := Lib.hid (BC.out x hxs)
          have i1 : (i : Int) < (n : Int) := by omega
          have i2 : (0 : Int) ≤ (i : Int) := by omega
          have i3 : (m : Int) ≤ 2097152 := by omega
          have hnext : Hid (Blm.filt K W8 ((X.take (i + 1)).map fun x => x.data.toList) = Blm.addK (8 * W8) x.data.toList K (Blm.filt K W8 ((X.take i).map fun x => x.data.toList))) := by
            rw [List.take_succ_eq_append_getElem hiX, List.map_append, List.map_singleton, Blm.filt_snoc, ← hx.out]
            exact Lib.hid rfl
          obtain ⟨F, hF2⟩ := named (Blm.filt K W8 ((X.take i).map fun x => x.data.toList))
          rw [← hF2.out] at hF hnext
          have HC := Lib.hid hc
          have HB := Lib.hid hbl
          subst ha
          clear hc hbl hxs
          go_wp2
          go_loopw [10] (fun d wr => ∃ j : Nat, j ≤ K ∧ d = .int .i64 j ∧ Hid (Bits0 w0 w0.heap.size W8 (Blm.addK (8 * W8) x.data.toList j F) wr)) (fun d _ => K - (intOf d).toNat)
          case atStart => exact ⟨0, by omega, rfl, hF⟩
          case round =>
            obtain ⟨j, hj, rfl, hG⟩ := hrel
            by_cases hjk : j < K
            · have x1 := (hG.out.below.cell (p := ⟨b, o + i, none⟩) HB.out).trans HC.out
              obtain ⟨p, hp⟩ := named (Blm.pos (8 * W8) x.data.toList j)
              have hp1 : p < 8 * W8 := by rw [hp.out]; exact Blm.pos_lt (by omega) _ _
              have CB := fun u => (C.out j (by omega) u)
              have hp' : Hid (p = Blm.pos m x.data.toList j) := Lib.hid (by rw [hp.out, hm8.out])
              rw [← hp'.out] at CB
              obtain ⟨p8, e8⟩ : ∃ p8 : Nat, Hid (p8 = p / 8) := ⟨_, Lib.hid rfl⟩
              obtain ⟨r8, f8⟩ : ∃ r8 : Nat, Hid (r8 = p % 8) := ⟨_, Lib.hid rfl⟩
              have d1 : (p : Int) / 8 = (p8 : Int) := by rw [e8.out]; omega
              have d2 : (p : Int) % 8 = (r8 : Int) := by rw [f8.out]; omega
              have d3 : p8 < W8 := by rw [e8.out]; omega
              have d4 : r8 < 8 := by rw [f8.out]; omega
              have hl : p8 < (Blm.addK (8 * W8) x.data.toList j F).length := by rw [hG.out.size]; exact d3
              obtain ⟨y1, y2⟩ := hG.out.hold p8 hl
              have hput := hG.out.put p8 hl ((Blm.addK (8 * W8) x.data.toList j F)[p8] ||| Blm.bit r8)
              have hset : Hid ((Blm.addK (8 * W8) x.data.toList j F).set p8 ((Blm.addK (8 * W8) x.data.toList j F)[p8] ||| Blm.bit r8) = Blm.addK (8 * W8) x.data.toList (j + 1) F) := by
                rw [Blm.addK, Blm.setB, ← hp.out, ← e8.out, ← f8.out, List.getElem?_eq_getElem hl]
                exact Lib.hid rfl
              rw [hset.out] at hput
              obtain ⟨c8, hc8⟩ := named ((Blm.addK (8 * W8) x.data.toList j F)[p8])
              rw [← hc8.out] at hput y1
              have oc := or_code c8 r8 d4
              have HP := Lib.hid hput
              have j1 : (p8 : Int) < (W8 : Int) := by omega
              have j2 : (0 : Int) ≤ (p8 : Int) := by omega
              have j3 : (r8 : Int) < 8 := by omega
              have j4 : (0 : Int) ≤ (r8 : Int) := by omega
              clear hput hset hc8 hl
              go_wp2_with (go_at_call 12; ((with_reducible refine (CB _).out.mono ?_); rintro e w3 ⟨rfl, rfl⟩))
              go_roundw
              case rel => exact ⟨j + 1, by omega, by go_num, HP⟩
              case measure => simp [intOf]; omega
            · obtain rfl : j = K := by omega
              go_wp2
              go_roundw
              case rel => exact ⟨i + 1, by omega, by go_num, by rw [hnext.out]; exact hG⟩
              case measure => simp [intOf]; omega
        · obtain rfl : i = n := by omega
          have hti : X.take i = X := List.take_of_length_le (by rw [HL.out]; exact Nat.le_refl _)
          rw [hti] at hF
          have hend : Hid (UInt8.ofNat K :: Blm.filt K W8 (X.map fun x => x.data.toList) = Blm.text (X.map fun x => x.data.toList) bits) := by
            unfold Blm.text
            rw [← hK.out, List.length_map, HL.out, ← hW8.out]
            exact Lib.hid rfl
          obtain ⟨F, hF2⟩ := named (Blm.filt K W8 (X.map fun x => x.data.toList))
          rw [← hF2.out] at hF hend
          have hK8 : (K : Int) = ((UInt8.ofNat K).toNat : Int) := by rw [UInt8.toNat_ofNat']; omega
          have o1 := holds8_one wr (UInt8.ofNat K) 5
          rw [← hK8] at o1
          have o2 := holds8_text o1 1 1 rfl
          have o3 := holds8_text (holds8_alloc hF.out.hold hF.out.lt (.cells #[.int .u8 (K : Int)] 5)) W8 W8 hF.out.size
          have oj := text_join (UInt8.ofNat K) F
          have hB := Lib.hid (below_of (hF.out.below) (below_alloc wr (.cells #[.int .u8 (K : Int)] 5)))
          have hT : Hid (mkT X bits = ⟨(UInt8.ofNat K :: F).toArray⟩) := Lib.hid (by unfold mkT; rw [hend.out])
          have fl : F.length ≤ 262144 := by rw [hF.out.size]; exact w2
          have HW := Lib.hid hw0.out
          clear hti hK8 o1
          go_wp2
          go_returns
          refine ⟨by rw [hT.out]; rfl, ?_⟩
          rw [← HW.out]
          exact hB.out
    · have qb : ((m : Int) % 8 == 0) = false := beq_eq_false_iff_ne.2 q
      have hlt : m + 1 ≤ 8 * W8 := by omega
      go_wp2
      go_roundw
      case rel => exact ⟨m + 1, by omega, hlt, by go_num, trivial⟩
      case measure => simp [intOf]; omega
end Go.Proofs.Ytccdbodemoefkaa
