/-
  The walk of the statement FrameCut. Condition: the contracts of the program's four calls ('Face').
-/
import Derived.Test.YtdhomindchjoiaaFrameWalks
import Derived.Test.YtdhomindchjoiaaFrameMath3
namespace Go.Proofs.Ytdhomindchjoiaa
open Go.RowKit
theorem slice_texts (a0 : Option Addr) (len cap j : Nat) (hj : j ≤ len) (hc : len ≤ cap) (u : World) :
    (Instr.slice 31 (.slice a0 len cap) none (some (.int .i64 (j : Int))) none).run Try.prog u = .ok (.slice a0 j cap) u := by
  have he : Try.prog.elem 31 = 9 := by kernel_rfl
  rw [run_slice_h u 31 a0 len cap (by rw [he]; exact Try.underlying31) .i64 (j : Int) (by omega) (by omega), he, Try.sizeOf9 u]
  simp [Result.andThen, sliced]
  cases a0 with
  | none => simp
  | some a =>
    simp
    intro _
    unfold Addr.add
    split
    · rfl
    · rename_i h; exact absurd rfl h
/-- The payloads of a list of texts. -/
def loads (Xs : List ByteArray) : List (List UInt8) := Xs.map fun X => X.data.toList
theorem loads_take (Xs : List ByteArray) (i : Nat) : loads (Xs.take i) = (loads Xs).take i := by simp [loads]
theorem loads_length (Xs : List ByteArray) : (loads Xs).length = Xs.length := by simp [loads]
theorem arg_lies {w w' : World} {a0 : Option Addr} {len cap bk off : Nat} {Xs : List ByteArray} (hlen : Xs.length = len) (ha : 0 < len → a0 = some ⟨bk, off, none⟩) (hbk : 0 < len → bk < w.heap.size)
    (hcell : ∀ (j : Nat) X, Xs[j]? = some X → w.cell? ⟨bk, off + j, none⟩ = some (.string X)) (hb : Below w.heap.size w w') (j : Nat) (hj : j ≤ len) : Lies w' (.slice a0 j cap) ((loads Xs).take j) := by
  refine ⟨a0, cap, by rw [List.length_take, loads_length, hlen, Nat.min_eq_left hj], ?_⟩
  by_cases h0 : j = 0
  · left; subst h0; simp
  · right
    refine ⟨bk, off, ha (by omega), fun n hn => ?_⟩
    have hn' : n < Xs.length := by rw [List.length_take, loads_length] at hn; omega
    have h1 := hcell n Xs[n] (List.getElem?_eq_getElem hn')
    have h2 : w'.cell? ⟨bk, off + n, none⟩ = w.cell? ⟨bk, off + n, none⟩ := hb.cell (p := ⟨bk, off + n, none⟩) (hbk (by omega))
    rw [h2, h1]
    have e : ((loads Xs).take j)[n] = Xs[n].data.toList := by simp [loads]
    rw [e, frame_back]
set_option maxHeartbeats 16000000 in
theorem frameCut_walk (F : Face) (a0 : Option Addr) (len cap bk off : Nat) (Xs : List ByteArray) (hlen : Xs.length = len) (hcap : len ≤ cap) (w : World) (ha : 0 < len → a0 = some ⟨bk, off, none⟩) (hbk : 0 < len → bk < w.heap.size)
    (hcell : ∀ (j : Nat) X, Xs[j]? = some X → w.cell? ⟨bk, off + j, none⟩ = some (.string X)) (x : Int) :
    Calls Try.prog 7 #[.slice a0 len cap, .int .i64 x] w fun e w' => e = .returned (.bool true) ∧ Below w.heap.size w w' := by
  have hB0 := Below.refl w.heap.size w
  have C9 := Lib.hid fun v => awake_any F v
  by_cases h20 : 20 < len
  · have h' : 20 < (len : Int) := by omega
    clear h20 ha hbk hcell hcap hlen
    go_enter Try.func7, Try.ntmps7
    go_wp2_with (go_at_call 15; ((with_reducible refine (C9.out _).mono ?_); rintro e w' ⟨rfl, hb⟩))
    go_ret
    exact ⟨rfl, hb⟩
  have h' : (len : Int) ≤ 20 := by omega
  have HAd := Lib.hid ha
  have HBk := Lib.hid hbk
  have HCell := Lib.hid hcell
  have HLen := Lib.hid hlen
  have HCap := Lib.hid hcap
  clear h20 ha hbk hcell hlen hcap
  go_enter Try.func7, Try.ntmps7
  go_wp2
  go_loopw [5, 6] (fun s d wr => ∃ (i : Nat) (l : List UInt8), i ≤ len ∧ l = Frame.puts ((loads Xs).take i) ∧ l.length ≤ 307 * i ∧ (∀ X ∈ Xs.take i, X.size ≤ 300) ∧ s = .string ⟨l.toArray⟩ ∧ d = .int .i64 (i : Int) ∧ Below w.heap.size w wr) (fun _ d _ => len - (intOf d).toNat)
  case atStart => exact ⟨0, [], by omega, by simp [Frame.puts], by simp, by simp, rfl, rfl, hB0⟩
  case round =>
    obtain ⟨i, l, hi, hl, hll, hsm, rfl, rfl, hB⟩ := hrel
    have HL := Lib.hid hl
    have HSm := Lib.hid hsm
    clear hl hsm
    have hsz := frame_size l
    by_cases hlt : i < len
    · have hix : i < Xs.length := by have := HLen.out; omega
      obtain ⟨X, hX⟩ : ∃ X, Xs[i]? = some X := ⟨Xs[i], List.getElem?_eq_getElem hix⟩
      have hc1 : wr.cell? ⟨bk, off + i, none⟩ = some (.string X) := (hB.cell (p := ⟨bk, off + i, none⟩) (HBk.out (by omega))).trans (HCell.out i X hX)
      obtain rfl := HAd.out (by omega)
      by_cases h300 : 300 < X.size
      · have h3' : 300 < (X.size : Int) := by omega
        clear h300 hX
        go_wp2_with (go_at_call 15; ((with_reducible refine (C9.out _).mono ?_); rintro e w' ⟨rfl, hb⟩; have hB' := below_of hB hb))
        go_ret
        exact ⟨rfl, hB'⟩
      · have h3' : (X.size : Int) ≤ 300 := by omega
        have c := fun v => F.put X v (by omega)
        have e : putOf X.data.toList = (Frame.put X.data.toList, 0) := by unfold putOf; rw [if_neg (by rw [frame_len]; omega)]
        rw [e] at c
        have hpl := Frame.put_length X.data.toList
        rw [frame_len] at hpl
        have hu3 : (Code.uvar X.size).length ≤ 3 := by
          by_cases h1 : X.size < 128
          · rw [uvar_one h1]; omega
          · rw [uvar_two h1 (by omega)]; omega
        have hcat := frame_cat l (Frame.put X.data.toList)
        have hz2 := frame_size (Frame.put X.data.toList)
        have htk : (loads Xs).take (i + 1) = (loads Xs).take i ++ [X.data.toList] := by
          have hix2 : i < (loads Xs).length := by rw [loads_length]; exact hix
          rw [List.take_succ_eq_append_getElem hix2]
          congr 2
          have : Xs[i] = X := by rw [List.getElem?_eq_getElem hix] at hX; exact Option.some.inj hX
          simp [loads, this]
        have hts : Xs.take (i + 1) = Xs.take i ++ [X] := by
          rw [List.take_succ_eq_append_getElem hix]
          have : Xs[i] = X := by rw [List.getElem?_eq_getElem hix] at hX; exact Option.some.inj hX
          rw [this]
        have hz3 : ((⟨(Frame.put X.data.toList).toArray⟩ : ByteArray).size : Int) ≤ 307 := by rw [hz2, hpl]; omega
        have hz4 : ((⟨l.toArray⟩ : ByteArray).size : Int) ≤ 6140 := by rw [hsz]; omega
        have hll2 : (l ++ Frame.put X.data.toList).length ≤ 307 * (i + 1) := by rw [List.length_append, hpl]; omega
        have HTk := Lib.hid htk
        have HTs := Lib.hid hts
        have HCat := Lib.hid hcat
        have HLL := Lib.hid hll2
        have H300 := Lib.hid h300
        obtain ⟨A, hA⟩ := named (⟨l.toArray⟩ : ByteArray)
        obtain ⟨Q, hQ⟩ := named (⟨(Frame.put X.data.toList).toArray⟩ : ByteArray)
        rw [← hA.out] at hz4 HCat ⊢
        have c' : ∀ v, Calls Try.prog 11 #[.string X] v fun e w' => e = .returned (.tuple #[.string Q, .int .i64 0]) ∧ Below v.heap.size v w' := by rw [hQ.out]; exact c
        rw [← hQ.out] at hz3 HCat
        have C := Lib.hid c'
        clear c c' e hpl hu3 hcat hz2 htk hts hX hll2 h300 hsz
        go_wp2_with (go_at_call 11; ((with_reducible refine (C.out _).mono ?_); rintro e w' ⟨rfl, hb⟩; have hB' := below_of hB hb))
        go_roundw
        case rel =>
          refine ⟨i + 1, l ++ Frame.put X.data.toList, by omega, ?_, HLL.out, ?_, by rw [HCat.out], by go_num, hB'⟩
          · rw [HTk.out, Frame.puts_snoc, ← HL.out]
          · intro Y hY
            rw [HTs.out] at hY
            rcases List.mem_append.1 hY with h | h
            · exact HSm.out Y h
            · rw [List.mem_singleton.1 h]; have := H300.out; omega
        case measure => simp [intOf]; omega
    · have hil : i = len := by omega
      subst hil
      have hLx := HLen.out
      have hfull : (loads Xs).take i = loads Xs := List.take_of_length_le (by rw [loads_length]; omega)
      have hfx : Xs.take i = Xs := List.take_of_length_le (by omega)
      rw [hfull] at HL
      rw [hfx] at HSm
      have hz4 : ((⟨l.toArray⟩ : ByteArray).size : Int) ≤ 6140 := by rw [hsz]; omega
      obtain ⟨k, hk, hkc⟩ : ∃ k : Nat, k ≤ l.length ∧ (x = (k : Int) ∨ (x < 0 ∧ (l.length : Int) = k) ∨ ((l.length : Int) < x ∧ 0 ≤ x ∧ (l.length : Int) = k)) := by
        rcases Int.lt_or_le x 0 with h | h
        · exact ⟨l.length, Nat.le_refl _, Or.inr (Or.inl ⟨h, rfl⟩)⟩
        · rcases Int.lt_or_le (l.length : Int) x with g | g
          · exact ⟨l.length, Nat.le_refl _, Or.inr (Or.inr ⟨g, h, rfl⟩)⟩
          · exact ⟨x.toNat, by omega, Or.inl (by omega)⟩
      clear hlt hi hfull hfx hLx
      have HBig : Hid (∀ p ∈ loads Xs, p.length ≤ 65536) := Lib.hid fun p hp => by
        obtain ⟨X, hX, rfl⟩ := List.mem_map.1 hp
        have := HSm.out X hX
        show X.data.toList.length ≤ 65536
        rw [frame_len]; omega
      have hSd : (⟨l.toArray⟩ : ByteArray).data.toList = l := rfl
      obtain ⟨S, hS⟩ := named (⟨l.toArray⟩ : ByteArray)
      rw [← hS.out] at hsz hz4 hSd ⊢
      have HSd := Lib.hid hSd
      have HSL := Lib.hid hsz
      have hkS : (k : Int) ≤ (S.size : Int) := by omega
      have hk4 : (k : Int) ≤ 6140 := by omega
      clear hSd
      rcases hkc with rfl | ⟨h0, hkl⟩ | ⟨h0, h1, hkl⟩
      · have hd1 : decide ((S.size : Int) < (k : Int)) = false := decide_eq_false (by omega)
        have hd2 : decide (S.size < k) = false := decide_eq_false (by omega)
        clear hsz
        go_wp2
        go_loopw [10, 11] (fun a d wq => ∃ (j e : Nat), j ≤ i ∧ e = (Frame.puts ((loads Xs).take j)).length ∧ e ≤ k ∧ a = .int .i64 (j : Int) ∧ d = .int .i64 (e : Int) ∧ Below w.heap.size w wq) (fun a _ _ => i - (intOf a).toNat)
        case atStart => exact ⟨0, 0, by omega, by simp [Frame.puts], by omega, rfl, rfl, hB⟩
        case round =>
          obtain ⟨j, e, hj, he, hek, rfl, rfl, hB'⟩ := hrel
          have HE := Lib.hid he
          clear he
          by_cases hjl : j < i
          · have hix : j < Xs.length := by have := HLen.out; omega
            obtain ⟨X, hX⟩ : ∃ X, Xs[j]? = some X := ⟨Xs[j], List.getElem?_eq_getElem hix⟩
            have hX' : Xs[j] = X := by rw [List.getElem?_eq_getElem hix] at hX; exact Option.some.inj hX
            have hX3 := HSm.out X (List.mem_of_getElem? hX)
            have hc1 : wr.cell? ⟨bk, off + j, none⟩ = some (.string X) := (hB'.cell (p := ⟨bk, off + j, none⟩) (HBk.out (by omega))).trans (HCell.out j X hX)
            have HX0 := HAd.out (by omega)
            subst HX0
            have hs := size_put X.data.toList (by rw [frame_len]; omega)
            rw [frame_len] at hs
            have cz := fun v => F.size (X.size : Int) v (by simp [Lit.wf, IntKind.min, IntKind.max, IntKind.signed, IntKind.bits]; omega)
            rw [hs] at cz
            have htk : (loads Xs).take (j + 1) = (loads Xs).take j ++ [X.data.toList] := by
              have hix2 : j < (loads Xs).length := by rw [loads_length]; exact hix
              rw [List.take_succ_eq_append_getElem hix2]
              congr 2
              simp [loads, hX']
            have hnx : (Frame.puts ((loads Xs).take (j + 1))).length = e + (Frame.put X.data.toList).length := by rw [htk, Frame.puts_snoc, List.length_append, ← HE.out]
            have hpl := Frame.put_length X.data.toList
            rw [frame_len] at hpl
            have h10 := Code.uvar_ten (n := X.size) (by omega)
            obtain ⟨q, hq⟩ := named (Frame.put X.data.toList).length
            rw [← hq.out] at cz hnx hpl
            have CZ := Lib.hid cz
            have hq1 : (q : Int) ≤ 400 := by omega
            have HNx := Lib.hid hnx
            clear cz hs htk hX hX' hpl h10 hnx
            have hek1 : (e : Int) ≤ 6140 := by omega
            by_cases hle : e + q ≤ k
            · have hle' : (e : Int) + (q : Int) ≤ (k : Int) := by omega
              go_wp2_with (go_at_call 13; ((with_reducible refine (CZ.out _).mono ?_); rintro r wz ⟨rfl, hbz⟩; have hB' := below_of hB' hbz; have hc1 : wz.cell? ⟨bk, off + j, none⟩ = some (.string X) := (hbz.cell (p := ⟨bk, off + j, none⟩) (World.block_lt_of_cell? _ _ hc1)).trans hc1))
              go_roundw
              case rel => exact ⟨j + 1, e + q, by omega, HNx.out.symm, hle, by go_num, by go_num, hB'⟩
              case measure => simp [intOf]; omega
            · have hle' : (k : Int) < (e : Int) + (q : Int) := by omega
              have H2 : Hid (j < i → k < (Frame.puts ((loads Xs).take (j + 1))).length) := Lib.hid fun _ => by rw [HNx.out]; omega
              clear hle
              have hl2 := fun (h : j < (loads Xs).length) => H2.out (by rw [loads_length, HLen.out] at h; exact h)
              have hcut := Frame.cut_at (loads Xs) k HBig.out (by rw [← HL.out]; exact hk) j (by rw [loads_length, HLen.out]; exact hj) (by rw [← HE.out]; exact hek) hl2
              rw [← HL.out, ← HE.out] at hcut
              have c5 := fun v => F.all ⟨(l.take k).toArray⟩ v (by rw [frame_size, List.length_take]; omega)
              have ed : (⟨(l.take k).toArray⟩ : ByteArray).data.toList = l.take k := rfl
              rw [ed, hcut] at c5
              have hst := slice_texts (some ⟨bk, off, none⟩) i cap j hj HCap.out
              obtain ⟨T, hT⟩ := named (⟨(l.take k).toArray⟩ : ByteArray)
              have hsl : ∀ u, (Instr.slice 9 (.string S) none (some (.int .i64 (k : Int))) none).run Try.prog u = .ok (.string T) u := fun u => by
                have := frame_to S k (by have := HSL.out; omega) (k : Int) rfl u
                rw [HSd.out, ← hT.out] at this; exact this
              rw [← hT.out] at c5
              have C4 := Lib.hid fun v v' u => refsame_any ((loads Xs).take j) (by rw [List.length_take, loads_length]; omega) v v' u
              by_cases hke : e = k
              · subst hke
                rw [if_pos rfl] at c5
                have C5 := Lib.hid c5
                clear c5 hcut hl2 ed
                go_wp2_with (first
                  | (go_at_call 13; ((with_reducible refine (CZ.out _).mono ?_); rintro r wz ⟨rfl, hbz⟩; have hB' := below_of hB' hbz))
                  | (go_at_call 18; ((with_reducible refine (C5.out _).mono ?_); rintro r w5 ⟨v5, rfl, t5, hb5⟩; have hB5 := below_of hB' hb5))
                  | (go_at_call 20; ((with_reducible refine (C4.out _ _ _ (texts_lie t5) (arg_lies HLen.out (fun _ => rfl) HBk.out HCell.out hB5 j hj)).mono ?_); rintro r w6 ⟨rfl, hb6⟩; have hB6 := below_of hB5 hb6))
                  | (go_at_call 15; ((with_reducible refine (C9.out _).mono ?_); rintro r w7 ⟨rfl, hb7⟩; have hB7 := below_of hB6 hb7)))
                go_ret
                exact ⟨rfl, hB7⟩
              · have hne : ((e : Int) == (k : Int)) = false := beq_eq_false_iff_ne.2 (by omega)
                rw [if_neg hke] at c5
                have C5 := Lib.hid c5
                clear c5 hcut hl2 ed hke
                go_wp2_with (first
                  | (go_at_call 13; ((with_reducible refine (CZ.out _).mono ?_); rintro r wz ⟨rfl, hbz⟩; have hB' := below_of hB' hbz))
                  | (go_at_call 18; ((with_reducible refine (C5.out _).mono ?_); rintro r w5 ⟨v5, rfl, t5, hb5⟩; have hB5 := below_of hB' hb5))
                  | (go_at_call 20; ((with_reducible refine (C4.out _ _ _ (texts_lie t5) (arg_lies HLen.out (fun _ => rfl) HBk.out HCell.out hB5 j hj)).mono ?_); rintro r w6 ⟨rfl, hb6⟩; have hB6 := below_of hB5 hb6))
                  | (go_at_call 15; ((with_reducible refine (C9.out _).mono ?_); rintro r w7 ⟨rfl, hb7⟩; have hB7 := below_of hB6 hb7)))
                go_ret
                exact ⟨rfl, hB7⟩
          · have hji : j = i := by omega
            subst hji
            have H2 : Hid (j < j → k < (Frame.puts ((loads Xs).take (j + 1))).length) := Lib.hid fun h => absurd h (Nat.lt_irrefl _)
            clear hjl
            have hl2 := fun (h : j < (loads Xs).length) => H2.out (by rw [loads_length, HLen.out] at h; exact h)
            have hcut := Frame.cut_at (loads Xs) k HBig.out (by rw [← HL.out]; exact hk) j (by rw [loads_length, HLen.out]; exact hj) (by rw [← HE.out]; exact hek) hl2
            rw [← HL.out, ← HE.out] at hcut
            have c5 := fun v => F.all ⟨(l.take k).toArray⟩ v (by rw [frame_size, List.length_take]; omega)
            have ed : (⟨(l.take k).toArray⟩ : ByteArray).data.toList = l.take k := rfl
            rw [ed, hcut] at c5
            have hst := slice_texts a0 j cap j hj HCap.out
            obtain ⟨T, hT⟩ := named (⟨(l.take k).toArray⟩ : ByteArray)
            have hsl : ∀ u, (Instr.slice 9 (.string S) none (some (.int .i64 (k : Int))) none).run Try.prog u = .ok (.string T) u := fun u => by
              have := frame_to S k (by have := HSL.out; omega) (k : Int) rfl u
              rw [HSd.out, ← hT.out] at this; exact this
            rw [← hT.out] at c5
            have C4 := Lib.hid fun v v' u => refsame_any ((loads Xs).take j) (by rw [List.length_take, loads_length]; omega) v v' u
            by_cases hke : e = k
            · subst hke
              rw [if_pos rfl] at c5
              have C5 := Lib.hid c5
              clear c5 hcut hl2 ed
              go_wp2_with (first
                | (go_at_call 18; ((with_reducible refine (C5.out _).mono ?_); rintro r w5 ⟨v5, rfl, t5, hb5⟩; have hB5 := below_of hB' hb5))
                | (go_at_call 20; ((with_reducible refine (C4.out _ _ _ (texts_lie t5) (arg_lies HLen.out HAd.out HBk.out HCell.out hB5 j hj)).mono ?_); rintro r w6 ⟨rfl, hb6⟩; have hB6 := below_of hB5 hb6))
                | (go_at_call 15; ((with_reducible refine (C9.out _).mono ?_); rintro r w7 ⟨rfl, hb7⟩; have hB7 := below_of hB6 hb7)))
              go_ret
              exact ⟨rfl, hB7⟩
            · have hne : ((e : Int) == (k : Int)) = false := beq_eq_false_iff_ne.2 (by omega)
              rw [if_neg hke] at c5
              have C5 := Lib.hid c5
              clear c5 hcut hl2 ed hke
              go_wp2_with (first
                | (go_at_call 18; ((with_reducible refine (C5.out _).mono ?_); rintro r w5 ⟨v5, rfl, t5, hb5⟩; have hB5 := below_of hB' hb5))
                | (go_at_call 20; ((with_reducible refine (C4.out _ _ _ (texts_lie t5) (arg_lies HLen.out HAd.out HBk.out HCell.out hB5 j hj)).mono ?_); rintro r w6 ⟨rfl, hb6⟩; have hB6 := below_of hB5 hb6))
                | (go_at_call 15; ((with_reducible refine (C9.out _).mono ?_); rintro r w7 ⟨rfl, hb7⟩; have hB7 := below_of hB6 hb7)))
              go_ret
              exact ⟨rfl, hB7⟩
      · have hSk : (S.size : Int) = (k : Int) := by omega
        clear hkl hsz hkS
        go_wp2
        go_loopw [10, 11] (fun a d wq => ∃ (j e : Nat), j ≤ i ∧ e = (Frame.puts ((loads Xs).take j)).length ∧ e ≤ k ∧ a = .int .i64 (j : Int) ∧ d = .int .i64 (e : Int) ∧ Below w.heap.size w wq) (fun a _ _ => i - (intOf a).toNat)
        case atStart => exact ⟨0, 0, by omega, by simp [Frame.puts], by omega, rfl, rfl, hB⟩
        case round =>
          obtain ⟨j, e, hj, he, hek, rfl, rfl, hB'⟩ := hrel
          have HE := Lib.hid he
          clear he
          by_cases hjl : j < i
          · have hix : j < Xs.length := by have := HLen.out; omega
            obtain ⟨X, hX⟩ : ∃ X, Xs[j]? = some X := ⟨Xs[j], List.getElem?_eq_getElem hix⟩
            have hX' : Xs[j] = X := by rw [List.getElem?_eq_getElem hix] at hX; exact Option.some.inj hX
            have hX3 := HSm.out X (List.mem_of_getElem? hX)
            have hc1 : wr.cell? ⟨bk, off + j, none⟩ = some (.string X) := (hB'.cell (p := ⟨bk, off + j, none⟩) (HBk.out (by omega))).trans (HCell.out j X hX)
            have HX0 := HAd.out (by omega)
            subst HX0
            have hs := size_put X.data.toList (by rw [frame_len]; omega)
            rw [frame_len] at hs
            have cz := fun v => F.size (X.size : Int) v (by simp [Lit.wf, IntKind.min, IntKind.max, IntKind.signed, IntKind.bits]; omega)
            rw [hs] at cz
            have htk : (loads Xs).take (j + 1) = (loads Xs).take j ++ [X.data.toList] := by
              have hix2 : j < (loads Xs).length := by rw [loads_length]; exact hix
              rw [List.take_succ_eq_append_getElem hix2]
              congr 2
              simp [loads, hX']
            have hnx : (Frame.puts ((loads Xs).take (j + 1))).length = e + (Frame.put X.data.toList).length := by rw [htk, Frame.puts_snoc, List.length_append, ← HE.out]
            have hpl := Frame.put_length X.data.toList
            rw [frame_len] at hpl
            have h10 := Code.uvar_ten (n := X.size) (by omega)
            obtain ⟨q, hq⟩ := named (Frame.put X.data.toList).length
            rw [← hq.out] at cz hnx hpl
            have CZ := Lib.hid cz
            have hq1 : (q : Int) ≤ 400 := by omega
            have HNx := Lib.hid hnx
            clear cz hs htk hX hX' hpl h10 hnx
            have hek1 : (e : Int) ≤ 6140 := by omega
            by_cases hle : e + q ≤ k
            · have hle' : (e : Int) + (q : Int) ≤ (k : Int) := by omega
              go_wp2_with (go_at_call 13; ((with_reducible refine (CZ.out _).mono ?_); rintro r wz ⟨rfl, hbz⟩; have hB' := below_of hB' hbz; have hc1 : wz.cell? ⟨bk, off + j, none⟩ = some (.string X) := (hbz.cell (p := ⟨bk, off + j, none⟩) (World.block_lt_of_cell? _ _ hc1)).trans hc1))
              go_roundw
              case rel => exact ⟨j + 1, e + q, by omega, HNx.out.symm, hle, by go_num, by go_num, hB'⟩
              case measure => simp [intOf]; omega
            · have hle' : (k : Int) < (e : Int) + (q : Int) := by omega
              have H2 : Hid (j < i → k < (Frame.puts ((loads Xs).take (j + 1))).length) := Lib.hid fun _ => by rw [HNx.out]; omega
              clear hle
              have hl2 := fun (h : j < (loads Xs).length) => H2.out (by rw [loads_length, HLen.out] at h; exact h)
              have hcut := Frame.cut_at (loads Xs) k HBig.out (by rw [← HL.out]; exact hk) j (by rw [loads_length, HLen.out]; exact hj) (by rw [← HE.out]; exact hek) hl2
              rw [← HL.out, ← HE.out] at hcut
              have c5 := fun v => F.all ⟨(l.take k).toArray⟩ v (by rw [frame_size, List.length_take]; omega)
              have ed : (⟨(l.take k).toArray⟩ : ByteArray).data.toList = l.take k := rfl
              rw [ed, hcut] at c5
              have hst := slice_texts (some ⟨bk, off, none⟩) i cap j hj HCap.out
              obtain ⟨T, hT⟩ := named (⟨(l.take k).toArray⟩ : ByteArray)
              have hsl : ∀ u, (Instr.slice 9 (.string S) none (some (.int .i64 (k : Int))) none).run Try.prog u = .ok (.string T) u := fun u => by
                have := frame_to S k (by have := HSL.out; omega) (k : Int) rfl u
                rw [HSd.out, ← hT.out] at this; exact this
              rw [← hT.out] at c5
              have C4 := Lib.hid fun v v' u => refsame_any ((loads Xs).take j) (by rw [List.length_take, loads_length]; omega) v v' u
              by_cases hke : e = k
              · subst hke
                rw [if_pos rfl] at c5
                have C5 := Lib.hid c5
                clear c5 hcut hl2 ed
                go_wp2_with (first
                  | (go_at_call 13; ((with_reducible refine (CZ.out _).mono ?_); rintro r wz ⟨rfl, hbz⟩; have hB' := below_of hB' hbz))
                  | (go_at_call 18; ((with_reducible refine (C5.out _).mono ?_); rintro r w5 ⟨v5, rfl, t5, hb5⟩; have hB5 := below_of hB' hb5))
                  | (go_at_call 20; ((with_reducible refine (C4.out _ _ _ (texts_lie t5) (arg_lies HLen.out (fun _ => rfl) HBk.out HCell.out hB5 j hj)).mono ?_); rintro r w6 ⟨rfl, hb6⟩; have hB6 := below_of hB5 hb6))
                  | (go_at_call 15; ((with_reducible refine (C9.out _).mono ?_); rintro r w7 ⟨rfl, hb7⟩; have hB7 := below_of hB6 hb7)))
                go_ret
                exact ⟨rfl, hB7⟩
              · have hne : ((e : Int) == (k : Int)) = false := beq_eq_false_iff_ne.2 (by omega)
                rw [if_neg hke] at c5
                have C5 := Lib.hid c5
                clear c5 hcut hl2 ed hke
                go_wp2_with (first
                  | (go_at_call 13; ((with_reducible refine (CZ.out _).mono ?_); rintro r wz ⟨rfl, hbz⟩; have hB' := below_of hB' hbz))
                  | (go_at_call 18; ((with_reducible refine (C5.out _).mono ?_); rintro r w5 ⟨v5, rfl, t5, hb5⟩; have hB5 := below_of hB' hb5))
                  | (go_at_call 20; ((with_reducible refine (C4.out _ _ _ (texts_lie t5) (arg_lies HLen.out (fun _ => rfl) HBk.out HCell.out hB5 j hj)).mono ?_); rintro r w6 ⟨rfl, hb6⟩; have hB6 := below_of hB5 hb6))
                  | (go_at_call 15; ((with_reducible refine (C9.out _).mono ?_); rintro r w7 ⟨rfl, hb7⟩; have hB7 := below_of hB6 hb7)))
                go_ret
                exact ⟨rfl, hB7⟩
          · have hji : j = i := by omega
            subst hji
            have H2 : Hid (j < j → k < (Frame.puts ((loads Xs).take (j + 1))).length) := Lib.hid fun h => absurd h (Nat.lt_irrefl _)
            clear hjl
            have hl2 := fun (h : j < (loads Xs).length) => H2.out (by rw [loads_length, HLen.out] at h; exact h)
            have hcut := Frame.cut_at (loads Xs) k HBig.out (by rw [← HL.out]; exact hk) j (by rw [loads_length, HLen.out]; exact hj) (by rw [← HE.out]; exact hek) hl2
            rw [← HL.out, ← HE.out] at hcut
            have c5 := fun v => F.all ⟨(l.take k).toArray⟩ v (by rw [frame_size, List.length_take]; omega)
            have ed : (⟨(l.take k).toArray⟩ : ByteArray).data.toList = l.take k := rfl
            rw [ed, hcut] at c5
            have hst := slice_texts a0 j cap j hj HCap.out
            obtain ⟨T, hT⟩ := named (⟨(l.take k).toArray⟩ : ByteArray)
            have hsl : ∀ u, (Instr.slice 9 (.string S) none (some (.int .i64 (k : Int))) none).run Try.prog u = .ok (.string T) u := fun u => by
              have := frame_to S k (by have := HSL.out; omega) (k : Int) rfl u
              rw [HSd.out, ← hT.out] at this; exact this
            rw [← hT.out] at c5
            have C4 := Lib.hid fun v v' u => refsame_any ((loads Xs).take j) (by rw [List.length_take, loads_length]; omega) v v' u
            by_cases hke : e = k
            · subst hke
              rw [if_pos rfl] at c5
              have C5 := Lib.hid c5
              clear c5 hcut hl2 ed
              go_wp2_with (first
                | (go_at_call 18; ((with_reducible refine (C5.out _).mono ?_); rintro r w5 ⟨v5, rfl, t5, hb5⟩; have hB5 := below_of hB' hb5))
                | (go_at_call 20; ((with_reducible refine (C4.out _ _ _ (texts_lie t5) (arg_lies HLen.out HAd.out HBk.out HCell.out hB5 j hj)).mono ?_); rintro r w6 ⟨rfl, hb6⟩; have hB6 := below_of hB5 hb6))
                | (go_at_call 15; ((with_reducible refine (C9.out _).mono ?_); rintro r w7 ⟨rfl, hb7⟩; have hB7 := below_of hB6 hb7)))
              go_ret
              exact ⟨rfl, hB7⟩
            · have hne : ((e : Int) == (k : Int)) = false := beq_eq_false_iff_ne.2 (by omega)
              rw [if_neg hke] at c5
              have C5 := Lib.hid c5
              clear c5 hcut hl2 ed hke
              go_wp2_with (first
                | (go_at_call 18; ((with_reducible refine (C5.out _).mono ?_); rintro r w5 ⟨v5, rfl, t5, hb5⟩; have hB5 := below_of hB' hb5))
                | (go_at_call 20; ((with_reducible refine (C4.out _ _ _ (texts_lie t5) (arg_lies HLen.out HAd.out HBk.out HCell.out hB5 j hj)).mono ?_); rintro r w6 ⟨rfl, hb6⟩; have hB6 := below_of hB5 hb6))
                | (go_at_call 15; ((with_reducible refine (C9.out _).mono ?_); rintro r w7 ⟨rfl, hb7⟩; have hB7 := below_of hB6 hb7)))
              go_ret
              exact ⟨rfl, hB7⟩
      · have hSk : (S.size : Int) = (k : Int) := by omega
        rw [← hsz, hSk] at h0
        clear hkl hsz hkS
        go_wp2
        go_loopw [10, 11] (fun a d wq => ∃ (j e : Nat), j ≤ i ∧ e = (Frame.puts ((loads Xs).take j)).length ∧ e ≤ k ∧ a = .int .i64 (j : Int) ∧ d = .int .i64 (e : Int) ∧ Below w.heap.size w wq) (fun a _ _ => i - (intOf a).toNat)
        case atStart => exact ⟨0, 0, by omega, by simp [Frame.puts], by omega, rfl, rfl, hB⟩
        case round =>
          obtain ⟨j, e, hj, he, hek, rfl, rfl, hB'⟩ := hrel
          have HE := Lib.hid he
          clear he
          by_cases hjl : j < i
          · have hix : j < Xs.length := by have := HLen.out; omega
            obtain ⟨X, hX⟩ : ∃ X, Xs[j]? = some X := ⟨Xs[j], List.getElem?_eq_getElem hix⟩
            have hX' : Xs[j] = X := by rw [List.getElem?_eq_getElem hix] at hX; exact Option.some.inj hX
            have hX3 := HSm.out X (List.mem_of_getElem? hX)
            have hc1 : wr.cell? ⟨bk, off + j, none⟩ = some (.string X) := (hB'.cell (p := ⟨bk, off + j, none⟩) (HBk.out (by omega))).trans (HCell.out j X hX)
            have HX0 := HAd.out (by omega)
            subst HX0
            have hs := size_put X.data.toList (by rw [frame_len]; omega)
            rw [frame_len] at hs
            have cz := fun v => F.size (X.size : Int) v (by simp [Lit.wf, IntKind.min, IntKind.max, IntKind.signed, IntKind.bits]; omega)
            rw [hs] at cz
            have htk : (loads Xs).take (j + 1) = (loads Xs).take j ++ [X.data.toList] := by
              have hix2 : j < (loads Xs).length := by rw [loads_length]; exact hix
              rw [List.take_succ_eq_append_getElem hix2]
              congr 2
              simp [loads, hX']
            have hnx : (Frame.puts ((loads Xs).take (j + 1))).length = e + (Frame.put X.data.toList).length := by rw [htk, Frame.puts_snoc, List.length_append, ← HE.out]
            have hpl := Frame.put_length X.data.toList
            rw [frame_len] at hpl
            have h10 := Code.uvar_ten (n := X.size) (by omega)
            obtain ⟨q, hq⟩ := named (Frame.put X.data.toList).length
            rw [← hq.out] at cz hnx hpl
            have CZ := Lib.hid cz
            have hq1 : (q : Int) ≤ 400 := by omega
            have HNx := Lib.hid hnx
            clear cz hs htk hX hX' hpl h10 hnx
            have hek1 : (e : Int) ≤ 6140 := by omega
            by_cases hle : e + q ≤ k
            · have hle' : (e : Int) + (q : Int) ≤ (k : Int) := by omega
              go_wp2_with (go_at_call 13; ((with_reducible refine (CZ.out _).mono ?_); rintro r wz ⟨rfl, hbz⟩; have hB' := below_of hB' hbz; have hc1 : wz.cell? ⟨bk, off + j, none⟩ = some (.string X) := (hbz.cell (p := ⟨bk, off + j, none⟩) (World.block_lt_of_cell? _ _ hc1)).trans hc1))
              go_roundw
              case rel => exact ⟨j + 1, e + q, by omega, HNx.out.symm, hle, by go_num, by go_num, hB'⟩
              case measure => simp [intOf]; omega
            · have hle' : (k : Int) < (e : Int) + (q : Int) := by omega
              have H2 : Hid (j < i → k < (Frame.puts ((loads Xs).take (j + 1))).length) := Lib.hid fun _ => by rw [HNx.out]; omega
              clear hle
              have hl2 := fun (h : j < (loads Xs).length) => H2.out (by rw [loads_length, HLen.out] at h; exact h)
              have hcut := Frame.cut_at (loads Xs) k HBig.out (by rw [← HL.out]; exact hk) j (by rw [loads_length, HLen.out]; exact hj) (by rw [← HE.out]; exact hek) hl2
              rw [← HL.out, ← HE.out] at hcut
              have c5 := fun v => F.all ⟨(l.take k).toArray⟩ v (by rw [frame_size, List.length_take]; omega)
              have ed : (⟨(l.take k).toArray⟩ : ByteArray).data.toList = l.take k := rfl
              rw [ed, hcut] at c5
              have hst := slice_texts (some ⟨bk, off, none⟩) i cap j hj HCap.out
              obtain ⟨T, hT⟩ := named (⟨(l.take k).toArray⟩ : ByteArray)
              have hsl : ∀ u, (Instr.slice 9 (.string S) none (some (.int .i64 (k : Int))) none).run Try.prog u = .ok (.string T) u := fun u => by
                have := frame_to S k (by have := HSL.out; omega) (k : Int) rfl u
                rw [HSd.out, ← hT.out] at this; exact this
              rw [← hT.out] at c5
              have C4 := Lib.hid fun v v' u => refsame_any ((loads Xs).take j) (by rw [List.length_take, loads_length]; omega) v v' u
              by_cases hke : e = k
              · subst hke
                rw [if_pos rfl] at c5
                have C5 := Lib.hid c5
                clear c5 hcut hl2 ed
                go_wp2_with (first
                  | (go_at_call 13; ((with_reducible refine (CZ.out _).mono ?_); rintro r wz ⟨rfl, hbz⟩; have hB' := below_of hB' hbz))
                  | (go_at_call 18; ((with_reducible refine (C5.out _).mono ?_); rintro r w5 ⟨v5, rfl, t5, hb5⟩; have hB5 := below_of hB' hb5))
                  | (go_at_call 20; ((with_reducible refine (C4.out _ _ _ (texts_lie t5) (arg_lies HLen.out (fun _ => rfl) HBk.out HCell.out hB5 j hj)).mono ?_); rintro r w6 ⟨rfl, hb6⟩; have hB6 := below_of hB5 hb6))
                  | (go_at_call 15; ((with_reducible refine (C9.out _).mono ?_); rintro r w7 ⟨rfl, hb7⟩; have hB7 := below_of hB6 hb7)))
                go_ret
                exact ⟨rfl, hB7⟩
              · have hne : ((e : Int) == (k : Int)) = false := beq_eq_false_iff_ne.2 (by omega)
                rw [if_neg hke] at c5
                have C5 := Lib.hid c5
                clear c5 hcut hl2 ed hke
                go_wp2_with (first
                  | (go_at_call 13; ((with_reducible refine (CZ.out _).mono ?_); rintro r wz ⟨rfl, hbz⟩; have hB' := below_of hB' hbz))
                  | (go_at_call 18; ((with_reducible refine (C5.out _).mono ?_); rintro r w5 ⟨v5, rfl, t5, hb5⟩; have hB5 := below_of hB' hb5))
                  | (go_at_call 20; ((with_reducible refine (C4.out _ _ _ (texts_lie t5) (arg_lies HLen.out (fun _ => rfl) HBk.out HCell.out hB5 j hj)).mono ?_); rintro r w6 ⟨rfl, hb6⟩; have hB6 := below_of hB5 hb6))
                  | (go_at_call 15; ((with_reducible refine (C9.out _).mono ?_); rintro r w7 ⟨rfl, hb7⟩; have hB7 := below_of hB6 hb7)))
                go_ret
                exact ⟨rfl, hB7⟩
          · have hji : j = i := by omega
            subst hji
            have H2 : Hid (j < j → k < (Frame.puts ((loads Xs).take (j + 1))).length) := Lib.hid fun h => absurd h (Nat.lt_irrefl _)
            clear hjl
            have hl2 := fun (h : j < (loads Xs).length) => H2.out (by rw [loads_length, HLen.out] at h; exact h)
            have hcut := Frame.cut_at (loads Xs) k HBig.out (by rw [← HL.out]; exact hk) j (by rw [loads_length, HLen.out]; exact hj) (by rw [← HE.out]; exact hek) hl2
            rw [← HL.out, ← HE.out] at hcut
            have c5 := fun v => F.all ⟨(l.take k).toArray⟩ v (by rw [frame_size, List.length_take]; omega)
            have ed : (⟨(l.take k).toArray⟩ : ByteArray).data.toList = l.take k := rfl
            rw [ed, hcut] at c5
            have hst := slice_texts a0 j cap j hj HCap.out
            obtain ⟨T, hT⟩ := named (⟨(l.take k).toArray⟩ : ByteArray)
            have hsl : ∀ u, (Instr.slice 9 (.string S) none (some (.int .i64 (k : Int))) none).run Try.prog u = .ok (.string T) u := fun u => by
              have := frame_to S k (by have := HSL.out; omega) (k : Int) rfl u
              rw [HSd.out, ← hT.out] at this; exact this
            rw [← hT.out] at c5
            have C4 := Lib.hid fun v v' u => refsame_any ((loads Xs).take j) (by rw [List.length_take, loads_length]; omega) v v' u
            by_cases hke : e = k
            · subst hke
              rw [if_pos rfl] at c5
              have C5 := Lib.hid c5
              clear c5 hcut hl2 ed
              go_wp2_with (first
                | (go_at_call 18; ((with_reducible refine (C5.out _).mono ?_); rintro r w5 ⟨v5, rfl, t5, hb5⟩; have hB5 := below_of hB' hb5))
                | (go_at_call 20; ((with_reducible refine (C4.out _ _ _ (texts_lie t5) (arg_lies HLen.out HAd.out HBk.out HCell.out hB5 j hj)).mono ?_); rintro r w6 ⟨rfl, hb6⟩; have hB6 := below_of hB5 hb6))
                | (go_at_call 15; ((with_reducible refine (C9.out _).mono ?_); rintro r w7 ⟨rfl, hb7⟩; have hB7 := below_of hB6 hb7)))
              go_ret
              exact ⟨rfl, hB7⟩
            · have hne : ((e : Int) == (k : Int)) = false := beq_eq_false_iff_ne.2 (by omega)
              rw [if_neg hke] at c5
              have C5 := Lib.hid c5
              clear c5 hcut hl2 ed hke
              go_wp2_with (first
                | (go_at_call 18; ((with_reducible refine (C5.out _).mono ?_); rintro r w5 ⟨v5, rfl, t5, hb5⟩; have hB5 := below_of hB' hb5))
                | (go_at_call 20; ((with_reducible refine (C4.out _ _ _ (texts_lie t5) (arg_lies HLen.out HAd.out HBk.out HCell.out hB5 j hj)).mono ?_); rintro r w6 ⟨rfl, hb6⟩; have hB6 := below_of hB5 hb6))
                | (go_at_call 15; ((with_reducible refine (C9.out _).mono ?_); rintro r w7 ⟨rfl, hb7⟩; have hB7 := below_of hB6 hb7)))
              go_ret
              exact ⟨rfl, hB7⟩
end Go.Proofs.Ytdhomindchjoiaa
