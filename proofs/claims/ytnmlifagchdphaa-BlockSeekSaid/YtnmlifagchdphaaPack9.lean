/-
  The contracts of the document's own Uint and PutUint. Condition: as those of the program's.
-/
import Derived.Test.YtnmlifagchdphaaPack8
import Derived.Deep.DrawnRows
import Derived.Deep.RegionHeld
import Derived.Deep.RegionWith
namespace Go.Proofs.Ytnmlifagchdphaa
set_option maxRecDepth 100000
open Go.RowKit
set_option maxRecDepth 100000 in
set_option maxHeartbeats 1000000 in
theorem refputuint_any (N : Nat) (hN : N < 2 ^ 64) (w : World) :
    Calls Try.prog 49 #[.int .u64 (N : Int)] w fun e w' => e = .returned (.string ⟨(Code.uvar N).toArray⟩) ∧ Below w.heap.size w w' := by
  have hlen := Code.uvar_ten hN
  go_enter Try.func49, Try.ntmps49
  go_wp2
  go_loopw [0, 3] (fun n d wr => ∃ (pre : List UInt8) (cur : Nat), cur < 2 ^ 64 ∧ Code.uvar N = pre ++ Code.uvar cur ∧ n = .int .u64 (cur : Int) ∧ d = .string ⟨pre.toArray⟩ ∧ Below w.heap.size w wr) (fun n _ _ => (intOf n).toNat)
  case atStart => exact ⟨[], N, hN, rfl, rfl, rfl, Below.refl _ _⟩
  case round =>
    obtain ⟨pre, cur, hcur, hU, rfl, rfl, hB⟩ := hrel
    by_cases hs : cur < 128
    · have hs' : (cur : Int) < 128 := by omega
      have hcv := text_one wr (UInt8.ofNat cur) (cur : Int) (by rw [UInt8.toNat_ofNat']; omega) 5
      have hpl : pre.length + 1 ≤ 10 := by
        have := Code.uvar_len cur
        rw [hU, List.length_append] at hlen; omega
      rw [Code.uvar_small hs] at hU
      have HU := Lib.hid hU
      clear hU
      go_wp2
      go_ret
      refine ⟨?_, hB.alloc hB.size _⟩
      rw [HU.out]
      congr 1
    · have hs' : 128 ≤ (cur : Int) := by omega
      have hpl : pre.length + 1 ≤ 10 := by
        have := Code.uvar_len cur
        rw [hU, List.length_append] at hlen; omega
      rw [Code.uvar_great hs] at hU
      obtain ⟨y, hY⟩ := named (UInt8.ofNat (cur % 128 + 128))
      rw [← hY.out] at hU
      have hcv := text_one wr y ((cur : Int) % 128 + 128) (by rw [hY.out, UInt8.toNat_ofNat']; omega) 5
      have HU := Lib.hid hU
      clear hU
      go_wp2
      go_roundw
      case rel => exact ⟨pre ++ [y], cur / 128, by omega, by rw [HU.out]; simp, by go_num, rfl, hB.alloc hB.size _⟩
      case measure => simp [intOf]; omega
set_option maxRecDepth 100000 in
set_option maxHeartbeats 2000000 in
theorem refuint_any (s : ByteArray) (hs : s.size ≤ maxLen) (w : World) :
    Calls Try.prog 32 #[.string s] w fun e w' =>
      e = .returned (.tuple #[.int .u64 ((Code.rd 0 s.data.toList).1 : Int), .int .i64 ((Code.rd 0 s.data.toList).2.1 : Int), .int .i64 ((Code.rd 0 s.data.toList).2.2 : Int)]) ∧ w' = w := by
  unfold maxLen at hs
  have hfit := Code.rd_fits s.data.toList
  obtain ⟨R, HR⟩ := named (Code.rd 0 s.data.toList)
  rw [← HR.out] at hfit ⊢
  go_enter Try.func32, Try.ntmps32
  go_wp2
  go_loop [5] (fun d => ∃ k : Nat, k ≤ s.size ∧ k ≤ 10 ∧ d = .int .i64 (k : Int) ∧ (∀ i, i < k → 128 ≤ (s.data.toList.getD i 0).toNat)) (fun d => 10 - (intOf d).toNat)
  case atStart => exact ⟨0, by omega, by omega, rfl, fun i h => by omega⟩
  case round =>
    obtain ⟨k, hk, hk10, rfl, hlead⟩ := hrel
    have hL := Lib.hid hlead
    clear hlead
    by_cases hend : k = s.size
    · by_cases h10 : k < 10
      · go_wp2
        go_returns
        have hR := HR.out
        rw [Code.rd_lead _ k (by omega) (by simp; omega) hL.out, List.drop_eq_nil_of_le (by simp; omega), Code.lift_nil] at hR
        rw [hR]; exact ⟨rfl, rfl⟩
      · have h10' : k = 10 := by omega
        subst h10'
        have hlen : s.size = 10 := hend.symm
        clear hend
        go_wp2
        go_returns
        have hR := HR.out
        have h9 := hL.out 9 (by omega)
        rw [Code.rd_lead _ 9 (by omega) (by simp; omega) (fun i hi => hL.out i (by omega)), drop_byte s 9 (by omega), Code.lift_form _ _ _ (Or.inr ⟨by rw [← getD_byte s 9 (by omega)]; omega, rfl⟩)] at hR
        rw [hR]; exact ⟨rfl, rfl⟩
    · have hlt : k < s.size := by omega
      by_cases h10 : k = 10
      · subst h10
        go_wp2
        go_returns
        have hR := HR.out
        have h9 := hL.out 9 (by omega)
        rw [Code.rd_lead _ 9 (by omega) (by simp; omega) (fun i hi => hL.out i (by omega)), drop_byte s 9 (by omega), Code.lift_form _ _ _ (Or.inr ⟨by rw [← getD_byte s 9 (by omega)]; omega, rfl⟩)] at hR
        rw [hR]; exact ⟨rfl, rfl⟩
      · have hlt10 : k < 10 := by omega
        obtain ⟨c, hC⟩ := named s[k]
        have hcl := UInt8.toNat_lt c
        have HC := Lib.hid hC.out.symm
        have hc0 := hC.out.symm
        by_cases hbig : 128 ≤ c.toNat
        · have hbig' : 128 ≤ (c.toNat : Int) := by omega
          go_wp2
          go_round
          case rel =>
            refine ⟨k + 1, by omega, by omega, by go_num, fun i hi => ?_⟩
            by_cases h : i = k
            · subst h; rw [getD_byte s _ hlt, HC.out]; exact hbig
            · exact hL.out i (by omega)
          case measure => simp [intOf]; omega
        · have hbig' : (c.toNat : Int) < 128 := by omega
          by_cases hf1 : 0 < k ∧ c.toNat = 0
          · obtain ⟨h1, h2⟩ := hf1
            have H2 := Lib.hid h2
            go_wp2
            go_returns
            have hR := HR.out
            rw [Code.rd_lead _ k (by omega) (by simp; omega) hL.out, drop_byte s k hlt, HC.out, Code.lift_form _ _ _ (Or.inl ⟨H2.out, h1⟩)] at hR
            rw [hR]; exact ⟨rfl, rfl⟩
          by_cases hf2 : k = 9 ∧ 1 < c.toNat
          · obtain ⟨rfl, h2⟩ := hf2
            have h2' : 1 < (c.toNat : Int) := by omega
            go_wp2
            go_returns
            have hR := HR.out
            rw [Code.rd_lead _ 9 (by omega) (by simp; omega) hL.out, drop_byte s 9 hlt, HC.out, Code.lift_form _ _ _ (Or.inr ⟨h2, rfl⟩)] at hR
            rw [hR]; exact ⟨rfl, rfl⟩
          have hR : R = (Code.accOf s.data.toList k + 128 ^ k * c.toNat, k + 1, 0) := by
            have hR := HR.out
            rw [Code.rd_lead _ k (by omega) (by simp; omega) hL.out, drop_byte s k hlt, HC.out, Code.lift_last _ _ _ (by omega) (by omega)] at hR
            exact hR
          have HT := Lib.hid hR
          clear hR
          have htop : Code.accOf s.data.toList (k + 1) = R.1 := by
            rw [HT.out, Code.accOf, getD_byte s k hlt, HC.out, Nat.mod_eq_of_lt (by omega)]
          have HA := Lib.hid htop
          have HFit := Lib.hid hfit
          clear htop hfit
          have hkk : (c.toNat = 0 ∧ (k : Int) ≤ 0) ∨ (k = 9 ∧ c.toNat = 1) ∨ (((c.toNat : Int) == 0) = false ∧ ((k : Int) == 9) = false) := by
            by_cases hz : c.toNat = 0
            · exact Or.inl ⟨hz, by omega⟩
            by_cases h1 : k = 9
            · exact Or.inr (Or.inl ⟨h1, by omega⟩)
            · exact Or.inr (Or.inr ⟨beq_eq_false_iff_ne.2 (by omega), beq_eq_false_iff_ne.2 (by omega)⟩)
          obtain ⟨K, hK⟩ : ∃ K, K = k + 1 := ⟨_, rfl⟩
          have hKs : K ≤ s.size := by omega
          rw [← hK] at HA
          have hfin : ((R.1 : Int) = R.1 ∧ (R.2.1 : Int) = (K : Int) ∧ (R.2.2 : Int) = 0) := by rw [HT.out]; exact ⟨rfl, by rw [hK], rfl⟩
          have HF := Lib.hid hfin
          have hkK : (k : Int) = (K : Int) - 1 := by omega
          clear hfin HT
          have HK := Lib.hid hkK
          clear hkK hK
          rcases hkk with ⟨hz, hk0⟩ | ⟨rfl, h1⟩ | ⟨hz, hk9⟩
          all_goals clear hC hf1 hf2
          all_goals go_wp2
          all_goals
            go_loop [6, 7] (fun n d => ∃ j m : Nat, j ≤ K ∧ n = .int .u64 (m : Int) ∧ d = .int .i64 ((j : Int) - 1) ∧ m * 128 ^ j + Code.accOf s.data.toList j = R.1) (fun _ d => (intOf d + 1).toNat)
            case atStart => exact ⟨K, 0, by omega, rfl, by have := HK.out; congr 1, by rw [Nat.zero_mul, Nat.zero_add]; exact HA.out⟩
            case round =>
              obtain ⟨j, m, hj, rfl, rfl, hm⟩ := hrel
              cases j with
              | zero =>
                go_wp2
                go_returns
                have e1 : m = R.1 := by simpa [Code.accOf] using hm
                have e2 : (R.2.1 : Int) = ((K : Int) - 1) + 1 := by have := HF.out.2.1; omega
                rw [← HK.out] at e2
                rw [e2, HF.out.2.2, e1]
                exact ⟨rfl, rfl⟩
              | succ j =>
                have hd : ((j + 1 : Nat) : Int) - 1 = (j : Int) := by omega
                rw [hd]
                have hjs : j < s.size := by omega
                rw [Code.accOf, getD_byte s j hjs, Nat.pow_succ, ← Nat.mul_assoc, Nat.mul_right_comm, ← Nat.add_assoc, Nat.add_right_comm, Nat.mul_comm (128 ^ j), ← Nat.add_mul] at hm
                have hb := HFit.out
                have hle : m * 128 + s[j].toNat % 128 ≤ R.1 := by
                  have := Nat.mul_le_mul_left (m * 128 + s[j].toNat % 128) (Nat.pow_pos (n := j) (show 0 < 128 by omega))
                  omega
                have HM := Lib.hid hm
                clear hm
                go_wp2
                go_round
                case rel =>
                  refine ⟨j, m * 128 + s[j].toNat % 128, by omega, ?_, rfl, HM.out⟩
                  go_num
                case measure => first | (simp [intOf]; done) | (simp [intOf]; omega)
end Go.Proofs.Ytnmlifagchdphaa
/-
  The contracts of the document's own Field and PutField. Condition: as those of the program's.
-/
namespace Go.Proofs.Ytnmlifagchdphaa
set_option maxRecDepth 100000
open Go.RowKit
theorem refputfield_any (t : ByteArray) (ht : t.size ≤ reachBytes) (w : World) :
    Calls Try.prog 50 #[.string t] w fun e w' => e = .returned (.string ⟨(Code.uvar t.size ++ t.data.toList).toArray⟩) ∧ Below w.heap.size w w' := by
  unfold reachBytes at ht
  have hl := Code.uvar_ten (n := t.size) (by omega)
  have C := refputuint_any t.size (by omega)
  obtain ⟨V, hV⟩ := named (Code.uvar t.size)
  rw [← hV.out] at hl C ⊢
  have CC := Lib.hid C
  clear C
  have hcon : (⟨V.toArray⟩ : ByteArray) ++ t = ⟨(V ++ t.data.toList).toArray⟩ := by
    apply ByteArray.ext; rw [ByteArray.data_append]; apply Array.toList_inj.1; simp
  go_enter Try.func50, Try.ntmps50
  go_wp2_with (go_at_call 49; ((with_reducible refine (CC.out _).mono ?_); rintro e w' ⟨rfl, hb⟩))
  go_ret
  exact ⟨by rw [← hcon]; rfl, hb⟩
set_option maxRecDepth 100000 in
set_option maxHeartbeats 4000000 in
theorem reffield_any (s : ByteArray) (hs : s.size ≤ reachBytes) (x : Int) (hx : -9223372036854775808 ≤ x ∧ x ≤ 9223372036854775807) (w : World) :
    Calls Try.prog 33 #[.string s, .int .i64 x] w fun e w' =>
      e = .returned (.tuple #[.string ⟨(Code.rdField s.data.toList x).1.toArray⟩, .int .i64 ((Code.rdField s.data.toList x).2.1 : Int), .int .i64 ((Code.rdField s.data.toList x).2.2 : Int)]) ∧ w' = w := by
  have hs' := reach_max hs
  have hsz := Code.rd_size s.data.toList
  have hfit := Code.rd_fits s.data.toList
  have hE := Code.rd_err 0 s.data.toList
  have hn := fun w => refuint_any s hs' w
  have hlen : s.data.toList.length = s.size := by simp
  rw [hlen] at hsz
  have hF : Hid (Code.rdField s.data.toList x = if (Code.rd 0 s.data.toList).2.2 ≠ 0 then ([], 0, (Code.rd 0 s.data.toList).2.2) else if x < (Code.rd 0 s.data.toList).1 then ([], 0, 3) else if s.size - (Code.rd 0 s.data.toList).2.1 < (Code.rd 0 s.data.toList).1 then ([], 0, 6) else ((s.data.toList.drop (Code.rd 0 s.data.toList).2.1).take (Code.rd 0 s.data.toList).1, (Code.rd 0 s.data.toList).2.1 + (Code.rd 0 s.data.toList).1, 0)) := Lib.hid (by rw [← hlen]; rfl)
  obtain ⟨⟨n, k, e⟩, HR⟩ := named (Code.rd 0 s.data.toList)
  simp only [← HR.out] at hn
  rw [← HR.out] at hE hsz hfit hF
  obtain ⟨T, HT⟩ := named (Code.rdField s.data.toList x)
  rw [← HT.out] at hF ⊢
  have HN := Lib.hid hn
  clear hn hlen
  have hsz : k ≤ s.size := hsz
  have hfit : n < 2 ^ 64 := hfit
  have hs2 := hs
  unfold reachBytes at hs2
  go_enter Try.func33, Try.ntmps33
  go_wp2_with fail
  refine (HN.out _).mono ?_
  rintro e' w1 ⟨rfl, rfl⟩
  rcases hE with h0 | ⟨h67, _, _⟩
  · have h0 : e = 0 := h0
    subst h0
    by_cases hlong : x < (n : Int)
    · by_cases hneg : x < 0
      · go_wp2
        go_returns
        have := hF.out
        rw [if_neg (by simp), if_pos hlong] at this
        rw [this]
        exact ⟨rfl, rfl⟩
      · have hpos : 0 ≤ x := by omega
        go_wp2
        go_returns
        have := hF.out
        rw [if_neg (by simp), if_pos hlong] at this
        rw [this]
        exact ⟨rfl, rfl⟩
    · have hpos : 0 ≤ x := by omega
      have hnl : (n : Int) ≤ x := by omega
      have hd0 : 0 ≤ (s.size : Int) - (k : Int) := by omega
      by_cases hshort : s.size - k < n
      · have hns : Hid (s.size - k < n) := hshort
        have hd1 : (s.size : Int) - (k : Int) < (n : Int) := by omega
        go_wp2
        go_returns
        have := hF.out
        rw [if_neg (by simp), if_neg (show ¬ x < (n : Int) by omega), if_pos hns.out] at this
        rw [this]
        exact ⟨rfl, rfl⟩
      · have hd1 : (n : Int) ≤ (s.size : Int) - (k : Int) := by omega
        have hT := hF.out
        rw [if_neg (by simp), if_neg (show ¬ x < (n : Int) by omega), if_neg hshort] at hT
        have HT2 := Lib.hid hT
        clear hT
        have hsl : (Instr.slice 9 (.string s) (some (.int .i64 (k : Int))) (some (.int .i64 ((k : Int) + (n : Int)))) none).run Try.prog w1 = .ok (.string (s.extract k (k + n))) w1 := by
          rw [run_slice_string_if w1 9 s .i64 .i64 _ _ Try.underlying9, if_pos ⟨by omega, by omega⟩, if_pos ⟨by omega, by omega⟩]
          have e1 : (k : Int).toNat = k := by omega
          have e2 : ((k : Int) + (n : Int)).toNat = k + n := by omega
          rw [e1, e2]
        go_wp2
        go_returns
        rw [HT2.out, field_list]
        exact ⟨rfl, rfl⟩
  · have h67 : e = 6 ∨ e = 7 := h67
    have hz : ((e : Int) == 0) = false := beq_eq_false_iff_ne.2 (by omega)
    have hz2 : ((e : Int) != 0) = true := bne_iff_ne.2 (by omega)
    have hne : Hid (¬ e = 0) := Lib.hid (by omega)
    go_wp2
    go_returns
    have := hF.out
    rw [if_pos hne.out] at this
    rw [this]
    exact ⟨rfl, rfl⟩
end Go.Proofs.Ytnmlifagchdphaa
/-
  The contract of the document's read. Condition: at most 65536 bytes, behind a key of at most 2^20.
-/
namespace Go.Proofs.Ytnmlifagchdphaa
set_option maxRecDepth 100000
open Go.RowKit
theorem sl64_upto (P : List UInt8) (n : Nat) (hn : n ≤ P.length) (u : World) : (Instr.slice 9 (.string ⟨P.toArray⟩) none (some (.int .u64 (n : Int))) none).run Try.prog u = .ok (.string ⟨(P.take n).toArray⟩) u := by
  have e := exL_upto P n
  rw [← e]
  exact run_slice_string_h u 9 ⟨P.toArray⟩ Try.underlying9 .u64 (n : Int) (by omega) (by rw [ofList_size]; omega)
def rdV (L : List UInt8) : Option (Rw × List UInt8) → Value
  | none => .tuple #[rowV rwZ, .int .i64 0]
  | some (x, t) => .tuple #[rowV x, .int .i64 ((L.length - t.length : Nat) : Int)]
theorem rdX_eq (s p : List UInt8) : rdX s p =
  if (Code.rd 0 s).2.2 ≠ 0 ∨ p.length < (Code.rd 0 s).1 then none else
  if (Code.rdField (s.drop (Code.rd 0 s).2.1) 520).2.2 ≠ 0 then none else
  if (Code.rd 0 ((s.drop (Code.rd 0 s).2.1).drop (Code.rdField (s.drop (Code.rd 0 s).2.1) 520).2.1)).2.2 ≠ 0 then none else
  match ((s.drop (Code.rd 0 s).2.1).drop (Code.rdField (s.drop (Code.rd 0 s).2.1) 520).2.1).drop (Code.rd 0 ((s.drop (Code.rd 0 s).2.1).drop (Code.rdField (s.drop (Code.rd 0 s).2.1) 520).2.1)).2.1 with
  | [] => none
  | k :: s3 =>
    if k.toNat = 1 then
      if (Code.rdField s3 2048).2.2 ≠ 0 then none else
      some (⟨⟨(p.take (Code.rd 0 s).1 ++ (Code.rdField (s.drop (Code.rd 0 s).2.1) 520).1).toArray⟩, (Code.rd 0 ((s.drop (Code.rd 0 s).2.1).drop (Code.rdField (s.drop (Code.rd 0 s).2.1) 520).2.1)).1, (k.toNat : Int), ⟨(Code.rdField s3 2048).1.toArray⟩⟩, s3.drop (Code.rdField s3 2048).2.1)
    else
      some (⟨⟨(p.take (Code.rd 0 s).1 ++ (Code.rdField (s.drop (Code.rd 0 s).2.1) 520).1).toArray⟩, (Code.rd 0 ((s.drop (Code.rd 0 s).2.1).drop (Code.rdField (s.drop (Code.rd 0 s).2.1) 520).2.1)).1, (k.toNat : Int), ⟨#[]⟩⟩, s3) := rfl
theorem refuint_list (L : List UInt8) (h : L.length ≤ 1048576) (w : World) :
    Calls Try.prog 32 #[.string ⟨L.toArray⟩] w fun e w' => e = .returned (.tuple #[.int .u64 ((Code.rd 0 L).1 : Int), .int .i64 ((Code.rd 0 L).2.1 : Int), .int .i64 ((Code.rd 0 L).2.2 : Int)]) ∧ w' = w :=
  refuint_any ⟨L.toArray⟩ (by rw [ofList_size]; unfold maxLen; omega) w
theorem reffield_list (L : List UInt8) (h : L.length ≤ 1048576) (x : Int) (hx : 0 ≤ x ∧ x ≤ 4096) (w : World) :
    Calls Try.prog 33 #[.string ⟨L.toArray⟩, .int .i64 x] w fun e w' => e = .returned (.tuple #[.string ⟨(Code.rdField L x).1.toArray⟩, .int .i64 ((Code.rdField L x).2.1 : Int), .int .i64 ((Code.rdField L x).2.2 : Int)]) ∧ w' = w :=
  reffield_any ⟨L.toArray⟩ (by rw [ofList_size]; unfold reachBytes; omega) x (by omega) w
set_option maxRecDepth 100000 in
set_option maxHeartbeats 8000000 in
theorem read_ref (L P : List UInt8) (hL : L.length ≤ 65536) (hP : P.length ≤ 1048576) (w : World) :
    Calls Try.prog 15 #[.string ⟨L.toArray⟩, .string ⟨P.toArray⟩] w fun e w' => e = .returned (rdV L (rdX L P)) ∧ Below w.heap.size w w' := by
  have hE := Lib.hid (rdX_eq L P)
  obtain ⟨X, hX⟩ := named (rdX L P)
  rw [← hX.out] at hE ⊢
  have C1 := Lib.hid (fun u => refuint_list L (by omega) u)
  have l1 := Code.rd_fits L
  have s1 := Code.rd_size L
  have SL1 := slL_from L (Code.rd 0 L).2.1 s1 _ rfl
  obtain ⟨⟨n1, k1, e1⟩, hR1⟩ := named (Code.rd 0 L)
  rw [← hR1.out] at hE C1 l1 s1 SL1
  simp only at hE C1 l1 s1 SL1
  obtain ⟨S1, hS1⟩ := named (L.drop k1)
  have hl1 : S1.length = L.length - k1 := by rw [hS1.out, List.length_drop]
  rw [← hS1.out] at hE SL1
  have C2 := Lib.hid (fun u => reffield_list S1 (by omega) 520 (by omega) u)
  have s2 := rdField_size S1 520
  have m2 := Lib.hid (rdField_most S1 520)
  obtain ⟨⟨D, k2, e2⟩, hR2⟩ := named (Code.rdField S1 520)
  rw [← hR2.out] at hE C2 s2 m2
  simp only at hE C2 s2 m2
  have SL2 := slL_from L (k1 + k2) (by omega) ((k1 : Int) + (k2 : Int)) (by omega)
  rw [← List.drop_drop, ← hS1.out] at SL2
  obtain ⟨S2, hS2⟩ := named (S1.drop k2)
  have hl2 : S2.length = S1.length - k2 := by rw [hS2.out, List.length_drop]
  rw [← hS2.out] at hE SL2
  have C3 := Lib.hid (fun u => refuint_list S2 (by omega) u)
  have s3 := Code.rd_size S2
  obtain ⟨⟨n3, k3, e3⟩, hR3⟩ := named (Code.rd 0 S2)
  rw [← hR3.out] at hE C3 s3
  simp only at hE C3 s3
  obtain ⟨S3, hS3⟩ := named (S2.drop k3)
  have hl3 : S3.length = S2.length - k3 := by rw [hS3.out, List.length_drop]
  have hD3 : Hid (L.drop (k1 + k2 + k3) = S3) := Lib.hid (by rw [← List.drop_drop, ← List.drop_drop, ← hS1.out, ← hS2.out, hS3.out])
  rw [← hS3.out] at hE
  clear hX hR1 hS1 hR2 hS2 hR3 hS3
  have R0 := Lib.hid (RowAt.new rwZ w)
  have W0 := Lib.hid (below_alloc w (.cells #[.string ⟨#[]⟩, .int .u64 0, .int .i64 0, .string ⟨#[]⟩] 33))
  have wP : IntKind.u64.wrap (P.length : Int) = (P.length : Int) := wrap_u64_nat (by omega)
  have PL : (⟨P.toArray⟩ : ByteArray).size = P.length := ofList_size P
  simp only [rwZ] at R0
  go_enter Try.func15, Try.ntmps15
  go_upto_region 2 with (go_at_call 32; ((with_reducible refine (C1.out _).mono ?_); rintro e u1 ⟨rfl, rfl⟩))
  generalize w.alloc (.cells #[.string ⟨#[]⟩, .int .u64 0, .int .i64 0, .string ⟨#[]⟩] 33) = v0 at *
  clear C1
  obtain ⟨⟨c0, c1, c2, c3⟩, cf⟩ := R0.out.cells
  simp only at c0 c1 c2 c3
  have f0 := cf 0
  have f1 := cf 1
  have f2 := cf 2
  have f3 := cf 3
  clear cf
  have Z := Lib.hid (And.intro (rowAt_put R0.out rwZ) (below_put4 W0.out (Nat.le_refl _) rwZ))
  simp only [rwZ] at Z
  by_cases q1 : e1 = 0
  case neg =>
    rw [if_pos (.inl q1)] at hE
    have g1 : ((e1 : Int) != 0) = true := by rw [bne_iff_ne]; omega
    go_wp2_with fail
    generalize (((v0.setCell ⟨w.heap.size, 0, none⟩ (.string ⟨#[]⟩)).setCell ⟨w.heap.size, 1, none⟩ (.int .u64 0)).setCell ⟨w.heap.size, 2, none⟩ (.int .i64 0)).setCell ⟨w.heap.size, 3, none⟩ (.string ⟨#[]⟩) = VZ at *
    clear c0 c1 c2 c3 f0 f1 f2 f3
    obtain ⟨⟨a0, a1, a2, a3⟩, _⟩ := Z.out.1.cells
    simp only at a0 a1 a2 a3
    refine bodyPost_ret (v := .tuple #[rowV rwZ, .int .i64 0]) (by simp [results, Try.results15, go_sem, a0, a1, a2, a3, rwZ]) rfl ?_
    exact ⟨by rw [hE.out]; rfl, Z.out.2⟩
  subst q1
  by_cases q2 : P.length < n1
  case pos =>
    rw [if_pos (.inr q2)] at hE
    have g1 : (P.length : Int) < (n1 : Int) := by omega
    go_wp2_with fail
    generalize (((v0.setCell ⟨w.heap.size, 0, none⟩ (.string ⟨#[]⟩)).setCell ⟨w.heap.size, 1, none⟩ (.int .u64 0)).setCell ⟨w.heap.size, 2, none⟩ (.int .i64 0)).setCell ⟨w.heap.size, 3, none⟩ (.string ⟨#[]⟩) = VZ at *
    clear c0 c1 c2 c3 f0 f1 f2 f3
    obtain ⟨⟨a0, a1, a2, a3⟩, _⟩ := Z.out.1.cells
    simp only at a0 a1 a2 a3
    refine bodyPost_ret (v := .tuple #[rowV rwZ, .int .i64 0]) (by simp [results, Try.results15, go_sem, a0, a1, a2, a3, rwZ]) rfl ?_
    exact ⟨by rw [hE.out]; rfl, Z.out.2⟩
  rw [if_neg (by intro e; rcases e with e | e; exact e rfl; exact q2 e)] at hE
  have g2 : ¬ (P.length : Int) < (n1 : Int) := by omega
  have g2b : decide (P.length < n1) = false := by rw [decide_eq_false_iff_not]; exact q2
  have SP := sl64_upto P n1 (by omega)
  obtain ⟨TK, hTK⟩ := named (P.take n1)
  have hTl : TK.length ≤ 1048576 := by rw [hTK.out, List.length_take]; omega
  rw [← hTK.out] at SP hE
  obtain ⟨N2, hN2⟩ := named (k1 + k2)
  have a2 : (k1 : Int) + (k2 : Int) = (N2 : Int) := by rw [hN2.out]; omega
  have hN2l : N2 ≤ L.length := by rw [hN2.out]; omega
  rw [a2] at SL2
  obtain ⟨N3, hN3⟩ := named (N2 + k3)
  have a3 : (N2 : Int) + (k3 : Int) = (N3 : Int) := by rw [hN3.out]; omega
  have hN3l : N3 ≤ L.length := by rw [hN3.out, hN2.out]; omega
  have hD3 : Hid (L.drop N3 = S3) := Lib.hid (by rw [hN3.out, hN2.out]; exact hD3.out)
  have hS3l : S3.length = L.length - N3 := by rw [← hD3.out, List.length_drop]
  have hk1 : k1 ≤ L.length := s1
  clear q2 hTK hl1 hl2 hl3 s2 s3 hN2 hN3
  go_upto_region 5 with (go_at_call 33; ((with_reducible refine (C2.out _).mono ?_); rintro e u2 ⟨rfl, rfl⟩))
  clear C2 SL1
  by_cases q3 : e2 = 0
  case neg =>
    rw [if_pos q3] at hE
    have g3 : ((e2 : Int) != 0) = true := by rw [bne_iff_ne]; omega
    go_wp2_with fail
    generalize (((u2.setCell ⟨w.heap.size, 0, none⟩ (.string ⟨#[]⟩)).setCell ⟨w.heap.size, 1, none⟩ (.int .u64 0)).setCell ⟨w.heap.size, 2, none⟩ (.int .i64 0)).setCell ⟨w.heap.size, 3, none⟩ (.string ⟨#[]⟩) = VZ at *
    clear c0 c1 c2 c3 f0 f1 f2 f3
    obtain ⟨⟨a0, a1, a2, a3⟩, _⟩ := Z.out.1.cells
    simp only at a0 a1 a2 a3
    refine bodyPost_ret (v := .tuple #[rowV rwZ, .int .i64 0]) (by simp [results, Try.results15, go_sem, a0, a1, a2, a3, rwZ]) rfl ?_
    exact ⟨by rw [hE.out]; rfl, Z.out.2⟩
  subst q3
  rw [if_neg (by simp)] at hE
  have hDl : D.length ≤ 520 := by have := m2.out rfl; omega
  go_upto_region 10 with (go_at_call 32; ((with_reducible refine (C3.out _).mono ?_); rintro e u3 ⟨rfl, rfl⟩))
  clear C3 SL2
  by_cases q4 : e3 = 0
  case neg =>
    rw [if_pos q4] at hE
    have g4 : ((e3 : Int) != 0) = true := by rw [bne_iff_ne]; omega
    go_wp2_with fail
    generalize (((u3.setCell ⟨w.heap.size, 0, none⟩ (.string ⟨#[]⟩)).setCell ⟨w.heap.size, 1, none⟩ (.int .u64 0)).setCell ⟨w.heap.size, 2, none⟩ (.int .i64 0)).setCell ⟨w.heap.size, 3, none⟩ (.string ⟨#[]⟩) = VZ at *
    clear c0 c1 c2 c3 f0 f1 f2 f3
    obtain ⟨⟨a0, a1, a2, a3⟩, _⟩ := Z.out.1.cells
    simp only at a0 a1 a2 a3
    refine bodyPost_ret (v := .tuple #[rowV rwZ, .int .i64 0]) (by simp [results, Try.results15, go_sem, a0, a1, a2, a3, rwZ]) rfl ?_
    exact ⟨by rw [hE.out]; rfl, Z.out.2⟩
  subst q4
  rw [if_neg (by simp)] at hE
  by_cases q5 : N3 = L.length
  case pos =>
    have h0 : S3 = [] := List.length_eq_zero_iff.1 (by omega)
    rw [h0] at hE
    simp only at hE
    have g5 : ((N3 : Int) == (L.length : Int)) = true := by rw [beq_iff_eq]; omega
    have g5b : (N3 == L.length) = true := by rw [beq_iff_eq]; exact q5
    clear h0
    go_wp2_with fail
    generalize (((u3.setCell ⟨w.heap.size, 0, none⟩ (.string ⟨#[]⟩)).setCell ⟨w.heap.size, 1, none⟩ (.int .u64 0)).setCell ⟨w.heap.size, 2, none⟩ (.int .i64 0)).setCell ⟨w.heap.size, 3, none⟩ (.string ⟨#[]⟩) = VZ at *
    clear c0 c1 c2 c3 f0 f1 f2 f3
    obtain ⟨⟨a0, a1, a2, a3⟩, _⟩ := Z.out.1.cells
    simp only at a0 a1 a2 a3
    refine bodyPost_ret (v := .tuple #[rowV rwZ, .int .i64 0]) (by simp [results, Try.results15, go_sem, a0, a1, a2, a3, rwZ]) rfl ?_
    exact ⟨by rw [hE.out]; rfl, Z.out.2⟩
  obtain ⟨k, S4, hS4⟩ : ∃ k S4, S3 = k :: S4 := by
    cases S3 with
    | nil => simp at hS3l; omega
    | cons k S4 => exact ⟨k, S4, rfl⟩
  have g5 : ((N3 : Int) == (L.length : Int)) = false := by rw [beq_eq_false_iff_ne]; omega
  have g5b : (N3 == L.length) = false := by rw [beq_eq_false_iff_ne]; exact q5
  have I0 := idxL L N3 k (by
    have := congrArg (·[0]?) hD3.out
    simp only [List.getElem?_drop, hS4] at this
    simpa using this) (N3 : Int) rfl
  rw [hS4] at hE
  simp only at hE
  have hkb := UInt8.toNat_lt k
  obtain ⟨K, hK⟩ := named k.toNat
  rw [← hK.out] at hE hkb I0
  have wK : IntKind.i64.wrap (K : Int) = (K : Int) := by rw [IntKind.wrap_i64]; omega
  have z1 : ¬ 9223372036854775807 < TK.length + D.length := by omega
  obtain ⟨KY, hKY⟩ := named (⟨(TK ++ D).toArray⟩ : ByteArray)
  rw [← hKY.out] at hE
  have CAT : (⟨TK.toArray⟩ : ByteArray) ++ ⟨D.toArray⟩ = KY := by rw [hKY.out, cat_ba]
  obtain ⟨N4, hN4⟩ := named (N3 + 1)
  have a4 : (N3 : Int) + 1 = (N4 : Int) := by rw [hN4.out]; omega
  have hN4l : N4 ≤ L.length := by rw [hN4.out]; omega
  have SL4 := slL_from L N4 hN4l (N4 : Int) rfl
  have e4 : L.drop N4 = S4 := by rw [hN4.out, ← List.drop_drop, hD3.out, hS4]; rfl
  rw [e4] at SL4
  have hS4l : S4.length = L.length - N4 := by rw [← e4, List.length_drop]
  clear hS4 hK hKY hD3 hS3l q5 e4 hN4
  clear Z
  have wK2 : IntKind.i64.wrap (k.toNat : Int) = IntKind.i64.wrap (k.toNat : Int) := rfl
  clear wK2
  go_upto_region 12 with fail
  go_region
  have A9 : Hid (RowAt u3.heap.size ⟨KY, n3, (K : Int), ⟨#[]⟩⟩ (u3.alloc (.cells #[.string KY, .int .u64 (n3 : Int), .int .i64 (K : Int), .string ⟨#[]⟩] 33)).drew) := Lib.hid (RowAt.new ⟨KY, n3, (K : Int), ⟨#[]⟩⟩ u3)
  have R9 : Hid (RowAt w.heap.size ⟨⟨#[]⟩, 0, 0, ⟨#[]⟩⟩ (u3.alloc (.cells #[.string KY, .int .u64 (n3 : Int), .int .i64 (K : Int), .string ⟨#[]⟩] 33)).drew) := Lib.hid (R0.out.below (below_alloc u3 _).drew)
  have W9 : Hid (Below w.heap.size w (u3.alloc (.cells #[.string KY, .int .u64 (n3 : Int), .int .i64 (K : Int), .string ⟨#[]⟩] 33)).drew) := Lib.hid (W0.out.alloc W0.out.size _).drew
  have hB : Hid (w.heap.size < u3.heap.size) := Lib.hid (Array.getElem?_eq_some_iff.1 R0.out).1
  clear c0 c1 c2 c3 f0 f1 f2 f3 R0 W0 I0 SP CAT
  generalize (u3.alloc (.cells #[.string KY, .int .u64 (n3 : Int), .int .i64 (K : Int), .string ⟨#[]⟩] 33)).drew = v9 at *
  obtain ⟨B9, hB9⟩ := named u3.heap.size
  rw [← hB9.out] at A9 hB ⊢
  obtain ⟨⟨c0, c1, c2, c3⟩, cf⟩ := R9.out.cells
  simp only at c0 c1 c2 c3
  have f0 := cf 0
  have f1 := cf 1
  have f2 := cf 2
  have f3 := cf 3
  obtain ⟨⟨d0, d1, d2, d3⟩, df⟩ := A9.out.cells
  simp only at d0 d1 d2 d3
  have e0 := df 3
  clear cf df
  by_cases q7 : K = 1
  case neg =>
    rw [if_neg q7] at hE
    have g7 : ((K : Int) == 1) = false := by rw [beq_eq_false_iff_ne]; omega
    have g7b : (K == 1) = false := by rw [beq_eq_false_iff_ne]; exact q7
    have Y := Lib.hid (And.intro (rowAt_put R9.out ⟨KY, n3, (K : Int), ⟨#[]⟩⟩) (below_put4 W9.out (Nat.le_refl _) ⟨KY, n3, (K : Int), ⟨#[]⟩⟩))
    simp only at Y
    have hN : L.length - S4.length = N4 := by omega
    have hN := Lib.hid hN
    clear q7
    go_wp2_with fail
    generalize (((v9.setCell ⟨w.heap.size, 0, none⟩ (.string KY)).setCell ⟨w.heap.size, 1, none⟩ (.int .u64 (n3 : Int))).setCell ⟨w.heap.size, 2, none⟩ (.int .i64 (K : Int))).setCell ⟨w.heap.size, 3, none⟩ (.string ⟨#[]⟩) = VZ at *
    clear c0 c1 c2 c3 f0 f1 f2 f3
    obtain ⟨⟨a0, a1, a2, a3⟩, _⟩ := Y.out.1.cells
    simp only at a0 a1 a2 a3
    refine bodyPost_ret (v := .tuple #[rowV ⟨KY, n3, (K : Int), ⟨#[]⟩⟩, .int .i64 (N4 : Int)]) (by simp [results, Try.results15, go_sem, a0, a1, a2, a3]) rfl ?_
    exact ⟨by rw [hE.out]; unfold rdV; simp only; rw [hN.out], Y.out.2⟩
  subst q7
  rw [if_pos rfl] at hE
  have C5 := Lib.hid (fun u => reffield_list S4 (by omega) 2048 (by omega) u)
  have s5 := rdField_size S4 2048
  obtain ⟨⟨V, k5, e5⟩, hR5⟩ := named (Code.rdField S4 2048)
  rw [← hR5.out] at hE C5 s5
  simp only at hE C5 s5
  obtain ⟨S5, hS5⟩ := named (S4.drop k5)
  have hS5l : S5.length = S4.length - k5 := by rw [hS5.out, List.length_drop]
  rw [← hS5.out] at hE
  obtain ⟨N5, hN5⟩ := named (N4 + k5)
  have a5 : (N4 : Int) + (k5 : Int) = (N5 : Int) := by rw [hN5.out]; omega
  have hN5l : N5 ≤ L.length := by rw [hN5.out]; omega
  have hN : Hid (L.length - S5.length = N5) := Lib.hid (by rw [hN5.out]; omega)
  clear hR5 hS5 hS5l hN5 s5
  go_upto_region 16 with (go_at_call 33; ((with_reducible refine (C5.out _).mono ?_); rintro e u9 ⟨rfl, rfl⟩))
  clear C5 SL4
  by_cases q8 : e5 = 0
  case neg =>
    rw [if_pos q8] at hE
    have g8 : ((e5 : Int) != 0) = true := by rw [bne_iff_ne]; omega
    have Z := Lib.hid (And.intro (rowAt_put R9.out rwZ) (below_put4 W9.out (Nat.le_refl _) rwZ))
    simp only [rwZ] at Z
    go_wp2_with fail
    generalize (((u9.setCell ⟨w.heap.size, 0, none⟩ (.string ⟨#[]⟩)).setCell ⟨w.heap.size, 1, none⟩ (.int .u64 0)).setCell ⟨w.heap.size, 2, none⟩ (.int .i64 0)).setCell ⟨w.heap.size, 3, none⟩ (.string ⟨#[]⟩) = VZ at *
    clear c0 c1 c2 c3 f0 f1 f2 f3
    obtain ⟨⟨a0, a1, a2, a3⟩, _⟩ := Z.out.1.cells
    simp only at a0 a1 a2 a3
    refine bodyPost_ret (v := .tuple #[rowV rwZ, .int .i64 0]) (by simp [results, Try.results15, go_sem, a0, a1, a2, a3, rwZ]) rfl ?_
    exact ⟨by rw [hE.out]; rfl, Z.out.2⟩
  subst q8
  rw [if_neg (by simp)] at hE
  have A10 := Lib.hid (rowAt_set3 A9.out ⟨V.toArray⟩)
  have R10 : Hid (RowAt w.heap.size ⟨⟨#[]⟩, 0, 0, ⟨#[]⟩⟩ (u9.setCell ⟨B9, 3, none⟩ (.string ⟨V.toArray⟩))) := Lib.hid ((heap_setCell_other _ _ _ _ (by have := hB.out; show w.heap.size ≠ B9; omega)).trans R9.out)
  have W10 := Lib.hid (W9.out.setCell (p := ⟨B9, 3, none⟩) (by have := hB.out; show w.heap.size ≤ B9; omega) (.string ⟨V.toArray⟩))
  go_upto_region 19 with fail
  clear c0 c1 c2 c3 f0 f1 f2 f3 d0 d1 d2 d3 e0 R9 A9 W9
  generalize u9.setCell ⟨B9, 3, none⟩ (.string ⟨V.toArray⟩) = v10 at *
  obtain ⟨⟨c0, c1, c2, c3⟩, cf⟩ := R10.out.cells
  simp only at c0 c1 c2 c3
  have f0 := cf 0
  have f1 := cf 1
  have f2 := cf 2
  have f3 := cf 3
  obtain ⟨⟨d0, d1, d2, d3⟩, df⟩ := A10.out.cells
  simp only at d0 d1 d2 d3
  clear cf df
  have Y := Lib.hid (And.intro (rowAt_put R10.out ⟨KY, n3, (1 : Int), ⟨V.toArray⟩⟩) (below_put4 W10.out (Nat.le_refl _) ⟨KY, n3, (1 : Int), ⟨V.toArray⟩⟩))
  simp only at Y
  go_wp2_with fail
  generalize (((v10.setCell ⟨w.heap.size, 0, none⟩ (.string KY)).setCell ⟨w.heap.size, 1, none⟩ (.int .u64 (n3 : Int))).setCell ⟨w.heap.size, 2, none⟩ (.int .i64 1)).setCell ⟨w.heap.size, 3, none⟩ (.string ⟨V.toArray⟩) = VZ at *
  clear c0 c1 c2 c3 f0 f1 f2 f3 d0 d1 d2 d3
  obtain ⟨⟨a0, a1, a2, a3⟩, _⟩ := Y.out.1.cells
  simp only at a0 a1 a2 a3
  refine bodyPost_ret (v := .tuple #[rowV ⟨KY, n3, (1 : Int), ⟨V.toArray⟩⟩, .int .i64 (N5 : Int)]) (by simp [results, Try.results15, go_sem, a0, a1, a2, a3]) rfl ?_
  exact ⟨by rw [hE.out]; unfold rdV; simp only; rw [hN.out]; rfl, Y.out.2⟩
end Go.Proofs.Ytnmlifagchdphaa
/-
  The document's Four. Condition: at least four bytes.
-/
namespace Go.Proofs.Ytnmlifagchdphaa
set_option maxRecDepth 100000
open Go.RowKit
set_option maxRecDepth 100000 in
set_option maxHeartbeats 2000000 in
theorem fourref_any (s : ByteArray) (b0 b1 b2 b3 : UInt8) (h0 : s.toList[0]? = some b0) (h1 : s.toList[1]? = some b1) (h2 : s.toList[2]? = some b2) (h3 : s.toList[3]? = some b3) (w : World) : Calls Try.prog 14 #[.string s] w fun e w' => e = .returned (.int .i64 ((b0.toNat + 256 * b1.toNat + 65536 * b2.toNat + 16777216 * b3.toNat : Nat) : Int)) ∧ Below w.heap.size w w' := by
  have I0 := idx_text s 0 b0 h0 0 rfl
  have I1 := idx_text s 1 b1 h1 1 rfl
  have I2 := idx_text s 2 b2 h2 2 rfl
  have I3 := idx_text s 3 b3 h3 3 rfl
  have l0 := UInt8.toNat_lt b0
  have l1 := UInt8.toNat_lt b1
  have l2 := UInt8.toNat_lt b2
  have l3 := UInt8.toNat_lt b3
  clear h0 h1 h2 h3
  go_enter Try.func14, Try.ntmps14
  go_wp2_with fail
  go_quiet (fail)
  go_wp2_with fail
  go_returns
  refine ⟨?_, below_drewN (Below.refl _ _)⟩
  show Ending.returned (.int .i64 ((b0.toNat : Int) + 256 * (b1.toNat : Int) + 65536 * (b2.toNat : Int) + 16777216 * (b3.toNat : Int))) = _
  congr 2
theorem fourL_any (L : List UInt8) (h : 4 ≤ L.length) (w : World) : Calls Try.prog 14 #[.string ⟨L.toArray⟩] w fun e w' => e = .returned (.int .i64 (u4 L : Nat)) ∧ Below w.heap.size w w' := by
  have g : ∀ k, k < 4 → (⟨L.toArray⟩ : ByteArray).toList[k]? = some (L.getD k 0) := fun k hk => by
    rw [ofList_toList, List.getD_eq_getElem?_getD, List.getElem?_eq_getElem (by omega)]; rfl
  exact fourref_any ⟨L.toArray⟩ _ _ _ _ (g 0 (by omega)) (g 1 (by omega)) (g 2 (by omega)) (g 3 (by omega)) w
end Go.Proofs.Ytnmlifagchdphaa
/-
  The document's Check. No condition.
-/
namespace Go.Proofs.Ytnmlifagchdphaa
set_option maxRecDepth 100000
open Go.RowKit
theorem chkR_bad {x : Rw} (h : (x.kind ≠ 1 ∧ x.kind ≠ 2) ∨ x.key.size = 0 ∨ x.seq < 1 ∨ 72057594037927936 ≤ x.seq ∨ (x.kind = 2 ∧ x.val.size ≠ 0)) : chkR x = 2 := by unfold chkR badR; rw [if_pos (decide_eq_true h)]
theorem chkR_long {x : Rw} (h : ¬ ((x.kind ≠ 1 ∧ x.kind ≠ 2) ∨ x.key.size = 0 ∨ x.seq < 1 ∨ 72057594037927936 ≤ x.seq ∨ (x.kind = 2 ∧ x.val.size ≠ 0))) (hl : 520 < x.key.size ∨ 2048 < x.val.size) : chkR x = 3 := by unfold chkR badR longR; rw [if_neg (by rw [decide_eq_true_eq]; exact h), if_pos (decide_eq_true hl)]
theorem chkR_fine {x : Rw} (h : ¬ ((x.kind ≠ 1 ∧ x.kind ≠ 2) ∨ x.key.size = 0 ∨ x.seq < 1 ∨ 72057594037927936 ≤ x.seq ∨ (x.kind = 2 ∧ x.val.size ≠ 0))) (hl : ¬ (520 < x.key.size ∨ 2048 < x.val.size)) : chkR x = 0 := by unfold chkR badR longR; rw [if_neg (by rw [decide_eq_true_eq]; exact h), if_neg (by rw [decide_eq_true_eq]; exact hl)]
set_option maxRecDepth 100000 in
set_option maxHeartbeats 4000000 in
theorem refchk_any (x : Rw) (w : World) : Calls Try.prog 35 #[rowV x] w fun e w' => e = .returned (.int .i64 (chkR x : Nat)) ∧ Below w.heap.size w w' := by
  have R0 := (RowAt.new x w).cells
  obtain ⟨xk, xs, xi, xv⟩ := x
  simp only at R0
  obtain ⟨⟨c0, c1, c2, c3⟩, _⟩ := R0
  by_cases h1 : xi = 1 ∨ xi = 2
  case neg =>
    have nk1 : (xi != 1) = true := by rw [bne_iff_ne]; omega
    have nk2 : (xi != 2) = true := by rw [bne_iff_ne]; omega
    have hv := Lib.hid (show chkR ⟨xk, xs, xi, xv⟩ = 2 from chkR_bad (.inl ⟨fun e => h1 (.inl e), fun e => h1 (.inr e)⟩))
    rw [hv.out]
    clear h1
    go_enter Try.func35, Try.ntmps35
    go_wp2_with fail
    go_returns
    exact ⟨rfl, below_alloc _ _⟩
  by_cases h2 : xk.size = 0
  case pos =>
    have be : (((xk.size : Nat) : Int) == 0) = true := by rw [beq_iff_eq]; omega
    rcases h1 with rfl | rfl
    · have hv := Lib.hid (show chkR ⟨xk, xs, 1, xv⟩ = 2 from chkR_bad (.inr (.inl h2)))
      rw [hv.out]
      clear h2
      go_enter Try.func35, Try.ntmps35
      go_wp2_with fail
      go_returns
      exact ⟨rfl, below_alloc _ _⟩
    · have hv := Lib.hid (show chkR ⟨xk, xs, 2, xv⟩ = 2 from chkR_bad (.inr (.inl h2)))
      rw [hv.out]
      clear h2
      go_enter Try.func35, Try.ntmps35
      go_wp2_with fail
      go_returns
      exact ⟨rfl, below_alloc _ _⟩
  have be : (((xk.size : Nat) : Int) == 0) = false := by rw [beq_eq_false_iff_ne]; omega
  replace h2 := Lib.hid h2
  rcases h1 with rfl | rfl
  · by_cases h4 : xs = 0
    case pos =>
      have bs : (((xs : Nat) : Int) == 0) = true := by rw [beq_iff_eq]; omega
      have hv := Lib.hid (show chkR ⟨xk, xs, 1, xv⟩ = 2 from chkR_bad (.inr (.inr (.inl (by show xs < 1; omega)))))
      rw [hv.out]
      clear h4
      go_enter Try.func35, Try.ntmps35
      go_wp2_with fail
      go_returns
      exact ⟨rfl, below_alloc _ _⟩
    have bs : (((xs : Nat) : Int) == 0) = false := by rw [beq_eq_false_iff_ne]; omega
    replace h4 := Lib.hid h4
    by_cases h5 : 72057594037927935 < xs
    case pos =>
      have ds : (decide ((72057594037927935 : Int) < ((xs : Nat) : Int))) = true := by rw [decide_eq_true_eq]; omega
      have dsn : (decide (72057594037927935 < xs)) = true := by rw [decide_eq_true_eq]; omega
      have hv := Lib.hid (show chkR ⟨xk, xs, 1, xv⟩ = 2 from chkR_bad (.inr (.inr (.inr (.inl (by show 72057594037927936 ≤ xs; omega))))))
      rw [hv.out]
      go_enter Try.func35, Try.ntmps35
      go_wp2_with fail
      go_returns
      exact ⟨rfl, below_alloc _ _⟩
    have ds : (decide ((72057594037927935 : Int) < ((xs : Nat) : Int))) = false := by rw [decide_eq_false_iff_not]; omega
    have dsn : (decide (72057594037927935 < xs)) = false := by rw [decide_eq_false_iff_not]; omega
    replace h5 := Lib.hid h5
    have hN := Lib.hid (show ¬ (((⟨xk, xs, 1, xv⟩ : Rw).kind ≠ 1 ∧ (⟨xk, xs, 1, xv⟩ : Rw).kind ≠ 2) ∨ (⟨xk, xs, 1, xv⟩ : Rw).key.size = 0 ∨ (⟨xk, xs, 1, xv⟩ : Rw).seq < 1 ∨ 72057594037927936 ≤ (⟨xk, xs, 1, xv⟩ : Rw).seq ∨ ((⟨xk, xs, 1, xv⟩ : Rw).kind = 2 ∧ (⟨xk, xs, 1, xv⟩ : Rw).val.size ≠ 0)) from by rintro (⟨a, b⟩ | hh | hh | hh | ⟨a, b⟩); exact absurd rfl a; exact h2.out hh; (have := h4.out; have hh : xs < 1 := hh; omega); (have := h5.out; have hh : 72057594037927936 ≤ xs := hh; omega); exact absurd a (by show ¬ (1 : Int) = 2; decide))
    by_cases h6 : 520 < xk.size
    case pos =>
      have dl : (decide ((520 : Int) < ((xk.size : Nat) : Int))) = true := by rw [decide_eq_true_eq]; omega
      have hv := Lib.hid (show chkR ⟨xk, xs, 1, xv⟩ = 3 from chkR_long hN.out (.inl h6))
      rw [hv.out]
      go_enter Try.func35, Try.ntmps35
      go_wp2_with fail
      go_returns
      exact ⟨rfl, below_alloc _ _⟩
    have dl : (decide ((520 : Int) < ((xk.size : Nat) : Int))) = false := by rw [decide_eq_false_iff_not]; omega
    have dln : (decide (520 < xk.size)) = false := by rw [decide_eq_false_iff_not]; omega
    replace h6 := Lib.hid h6
    by_cases h7 : 2048 < xv.size
    case pos =>
      have dm : (decide ((2048 : Int) < ((xv.size : Nat) : Int))) = true := by rw [decide_eq_true_eq]; omega
      have hv := Lib.hid (show chkR ⟨xk, xs, 1, xv⟩ = 3 from chkR_long hN.out (.inr h7))
      rw [hv.out]
      go_enter Try.func35, Try.ntmps35
      go_wp2_with fail
      go_returns
      exact ⟨rfl, below_alloc _ _⟩
    have dm : (decide ((2048 : Int) < ((xv.size : Nat) : Int))) = false := by rw [decide_eq_false_iff_not]; omega
    have dmn : (decide (2048 < xv.size)) = false := by rw [decide_eq_false_iff_not]; omega
    replace h7 := Lib.hid h7
    have hv := Lib.hid (show chkR ⟨xk, xs, 1, xv⟩ = 0 from chkR_fine hN.out (fun hh => by rcases hh with hh | hh; exact h6.out hh; exact h7.out hh))
    rw [hv.out]
    go_enter Try.func35, Try.ntmps35
    go_wp2_with fail
    go_returns
    exact ⟨rfl, below_alloc _ _⟩
  · by_cases h3 : xv.size = 0
    case neg =>
      have dz : (decide ((0 : Int) < ((xv.size : Nat) : Int))) = true := by rw [decide_eq_true_eq]; omega
      have dzn : (decide (0 < xv.size)) = true := by rw [decide_eq_true_eq]; omega
      have pz : 0 < xv.size := by omega
      have hv := Lib.hid (show chkR ⟨xk, xs, 2, xv⟩ = 2 from chkR_bad (.inr (.inr (.inr (.inr ⟨rfl, h3⟩)))))
      rw [hv.out]
      clear h3
      go_enter Try.func35, Try.ntmps35
      go_wp2_with fail
      go_returns
      exact ⟨rfl, below_alloc _ _⟩
    have dz : (decide ((0 : Int) < ((xv.size : Nat) : Int))) = false := by rw [decide_eq_false_iff_not]; omega
    have dzn : (decide (0 < xv.size)) = false := by rw [decide_eq_false_iff_not]; omega
    replace h3 := Lib.hid h3
    by_cases h4 : xs = 0
    case pos =>
      have bs : (((xs : Nat) : Int) == 0) = true := by rw [beq_iff_eq]; omega
      have hv := Lib.hid (show chkR ⟨xk, xs, 2, xv⟩ = 2 from chkR_bad (.inr (.inr (.inl (by show xs < 1; omega)))))
      rw [hv.out]
      clear h4
      go_enter Try.func35, Try.ntmps35
      go_wp2_with fail
      go_returns
      exact ⟨rfl, below_alloc _ _⟩
    have bs : (((xs : Nat) : Int) == 0) = false := by rw [beq_eq_false_iff_ne]; omega
    replace h4 := Lib.hid h4
    by_cases h5 : 72057594037927935 < xs
    case pos =>
      have ds : (decide ((72057594037927935 : Int) < ((xs : Nat) : Int))) = true := by rw [decide_eq_true_eq]; omega
      have dsn : (decide (72057594037927935 < xs)) = true := by rw [decide_eq_true_eq]; omega
      have hv := Lib.hid (show chkR ⟨xk, xs, 2, xv⟩ = 2 from chkR_bad (.inr (.inr (.inr (.inl (by show 72057594037927936 ≤ xs; omega))))))
      rw [hv.out]
      go_enter Try.func35, Try.ntmps35
      go_wp2_with fail
      go_returns
      exact ⟨rfl, below_alloc _ _⟩
    have ds : (decide ((72057594037927935 : Int) < ((xs : Nat) : Int))) = false := by rw [decide_eq_false_iff_not]; omega
    have dsn : (decide (72057594037927935 < xs)) = false := by rw [decide_eq_false_iff_not]; omega
    replace h5 := Lib.hid h5
    have hN := Lib.hid (show ¬ (((⟨xk, xs, 2, xv⟩ : Rw).kind ≠ 1 ∧ (⟨xk, xs, 2, xv⟩ : Rw).kind ≠ 2) ∨ (⟨xk, xs, 2, xv⟩ : Rw).key.size = 0 ∨ (⟨xk, xs, 2, xv⟩ : Rw).seq < 1 ∨ 72057594037927936 ≤ (⟨xk, xs, 2, xv⟩ : Rw).seq ∨ ((⟨xk, xs, 2, xv⟩ : Rw).kind = 2 ∧ (⟨xk, xs, 2, xv⟩ : Rw).val.size ≠ 0)) from by rintro (⟨a, b⟩ | hh | hh | hh | ⟨a, b⟩); exact absurd rfl b; exact h2.out hh; (have := h4.out; have hh : xs < 1 := hh; omega); (have := h5.out; have hh : 72057594037927936 ≤ xs := hh; omega); exact b h3.out)
    by_cases h6 : 520 < xk.size
    case pos =>
      have dl : (decide ((520 : Int) < ((xk.size : Nat) : Int))) = true := by rw [decide_eq_true_eq]; omega
      have hv := Lib.hid (show chkR ⟨xk, xs, 2, xv⟩ = 3 from chkR_long hN.out (.inl h6))
      rw [hv.out]
      go_enter Try.func35, Try.ntmps35
      go_wp2_with fail
      go_returns
      exact ⟨rfl, below_alloc _ _⟩
    have dl : (decide ((520 : Int) < ((xk.size : Nat) : Int))) = false := by rw [decide_eq_false_iff_not]; omega
    have dln : (decide (520 < xk.size)) = false := by rw [decide_eq_false_iff_not]; omega
    replace h6 := Lib.hid h6
    by_cases h7 : 2048 < xv.size
    case pos =>
      have dm : (decide ((2048 : Int) < ((xv.size : Nat) : Int))) = true := by rw [decide_eq_true_eq]; omega
      have hv := Lib.hid (show chkR ⟨xk, xs, 2, xv⟩ = 3 from chkR_long hN.out (.inr h7))
      rw [hv.out]
      go_enter Try.func35, Try.ntmps35
      go_wp2_with fail
      go_returns
      exact ⟨rfl, below_alloc _ _⟩
    have dm : (decide ((2048 : Int) < ((xv.size : Nat) : Int))) = false := by rw [decide_eq_false_iff_not]; omega
    have dmn : (decide (2048 < xv.size)) = false := by rw [decide_eq_false_iff_not]; omega
    replace h7 := Lib.hid h7
    have hv := Lib.hid (show chkR ⟨xk, xs, 2, xv⟩ = 0 from chkR_fine hN.out (fun hh => by rcases hh with hh | hh; exact h6.out hh; exact h7.out hh))
    rw [hv.out]
    go_enter Try.func35, Try.ntmps35
    go_wp2_with fail
    go_returns
    exact ⟨rfl, below_alloc _ _⟩
end Go.Proofs.Ytnmlifagchdphaa
/-
  The document's Ahead and Place. No condition but at most 1048575 rows.
-/
namespace Go.Proofs.Ytnmlifagchdphaa
set_option maxRecDepth 100000
open Go.RowKit
set_option maxRecDepth 100000 in
set_option maxHeartbeats 2000000 in
theorem ahead_ref (x : Rw) (k : ByteArray) (q : Nat) (w : World) : Calls Try.prog 38 #[rowV x, .string k, .int .u64 (q : Int)] w fun e w' => e = .returned (.bool (ahd x k q)) ∧ Below w.heap.size w w' := by
  have R0 := (RowAt.new x w).cells
  have W0 := Lib.hid (below_alloc w (.cells #[.string x.key, .int .u64 (x.seq : Int), .int .i64 x.kind, .string x.val] 33))
  have hp := ahd_parts x k q
  obtain ⟨xk, xs, xi, xv⟩ := x
  simp only at R0 W0 hp
  obtain ⟨⟨c0, c1, c2, c3⟩, _⟩ := R0
  rcases hp with ⟨p1, p2⟩ | ⟨p1, p3, p2⟩ | ⟨p1, p3, p2⟩
  · rw [p2]
    clear p2
    go_enter Try.func38, Try.ntmps38
    go_wp2_with fail
    go_returns
    exact ⟨rfl, W0.out⟩
  · rw [p2, show (decide ((q : Int) < (xs : Int))) = decide (q < xs) by congr 1; simp]
    clear p2
    go_enter Try.func38, Try.ntmps38
    go_wp2_with fail
    go_returns
    exact ⟨rfl, W0.out⟩
  · rw [p2]
    clear p2
    go_enter Try.func38, Try.ntmps38
    go_wp2_with fail
    go_returns
    exact ⟨rfl, W0.out⟩
theorem plc_drop {l : List Rw} {k : ByteArray} {q j : Nat} {x : Rw} (hx : l[j]? = some x) : plc (l.drop j) k q = if ahd x k q = true then 1 + plc (l.drop (j + 1)) k q else 0 := by
  obtain ⟨h1, h2⟩ := List.getElem?_eq_some_iff.1 hx
  rw [List.drop_eq_getElem_cons h1, h2]
  unfold plc
  rw [List.takeWhile_cons]
  split
  · simp; omega
  · rfl
set_option maxRecDepth 100000 in
set_option maxHeartbeats 4000000 in
theorem place_ref {p : Option Addr} {n c b o : Nat} {l : List Rw} {w : World} (h : Rs p n c b o l w) (hn : n ≤ 1048575) (k : ByteArray) (q : Nat) :
    Calls Try.prog 22 #[.slice p n c, .string k, .int .u64 (q : Int)] w fun e w' => e = .returned (.int .i64 (plc l k q : Int)) ∧ Below w.heap.size w w' := by
  have e0 := Lib.hid h.len
  have m0 := h.most
  have q0 := h.cap
  obtain ⟨E, hE⟩ := named (plc l k q)
  rw [← hE.out]
  have h := Lib.hid h
  go_enter Try.func22, Try.ntmps22
  go_wp2_with fail
  go_loopw [7] (fun i wr => ∃ j : Nat, j ≤ n ∧ i = .int .i64 (j : Int) ∧ E = j + plc (l.drop j) k q ∧ Below w.heap.size w wr) (fun i _ => n - (intOf i).toNat)
  case atStart => exact ⟨0, Nat.zero_le _, rfl, by rw [hE.out]; simp, Below.refl _ _⟩
  case round =>
    obtain ⟨j, hj, rfl, hEj, hb⟩ := hrel
    by_cases hlt : j < n
    · obtain ⟨x, hx, rfl, x0, x1, x2, x3⟩ := (h.out.below hb (Nat.le_refl _)).at4 hlt
      rw [plc_drop hx] at hEj
      have AC := Lib.hid (ahead_ref x k q wr)
      have i1 : (j : Int) < (n : Int) := by omega
      obtain ⟨xk, xs, xi, xv⟩ := x
      simp only at x0 x1 x2 x3 AC hEj
      obtain ⟨T, hT⟩ := named (ahd ⟨xk, xs, xi, xv⟩ k q)
      rw [← hT.out] at AC hEj
      have hb := Lib.hid hb
      clear hx
      cases T with
      | true =>
        have hEj2 : Hid (E = j + 1 + plc (l.drop (j + 1)) k q) := Lib.hid (by simp only [if_true] at hEj; omega)
        clear hEj
        go_wp2_with (go_at_call 38; ((with_reducible refine AC.out.mono ?_); rintro e w2 ⟨rfl, hb2⟩; have B2 := Lib.hid (below_of hb.out hb2); clear hb2))
        go_roundw
        case rel => exact ⟨j + 1, by omega, by go_num, hEj2.out, B2.out⟩
        case measure => simp [intOf]; omega
      | false =>
        have hEj2 : Hid (E = j) := Lib.hid (by simpa using hEj)
        clear hEj
        go_wp2_with (go_at_call 38; ((with_reducible refine AC.out.mono ?_); rintro e w2 ⟨rfl, hb2⟩; have B2 := Lib.hid (below_of hb.out hb2); clear hb2))
        go_returns
        exact ⟨by rw [hEj2.out]; rfl, B2.out⟩
    · have hjn : j = n := by omega
      have hEj2 : E = j := by
        rw [hEj, List.drop_eq_nil_of_le (by rw [e0.out]; omega)]
        simp [plc]
      have i1 : ¬ ((j : Int) < (n : Int)) := by omega
      have hb := Lib.hid hb
      replace hEj2 := Lib.hid hEj2
      clear hEj hjn
      go_wp2_with fail
      go_returns
      exact ⟨by rw [hEj2.out]; rfl, hb.out⟩
end Go.Proofs.Ytnmlifagchdphaa
