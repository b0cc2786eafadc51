/-
  The contract of Build. No condition.
-/
import Derived.Test.YtnmlifagchdphaaBlockAll
import Derived.Test.YtnmlifagchdphaaBlockWriter
import Derived.Test.YtnmlifagchdphaaBuilder3
namespace Go.Proofs.Ytnmlifagchdphaa
set_option maxRecDepth 100000
open Go.RowKit
theorem chkA_ok {l : List Rw} {d : Int} (h : chkA l d = 0) : 1 ≤ d ∧ d ≤ 64 ∧ ordR l = true ∧ (∀ x ∈ l, chkR x = 0) ∧ l.length ≤ 1024 := by
  unfold chkA at h
  split at h
  · cases h
  rename_i h1
  split at h
  · cases h
  rename_i h2
  split at h
  · cases h
  rename_i h3
  refine ⟨by omega, by omega, by cases ho : ordR l; exact absurd (.inr (.inr ho)) h1; rfl, fun x hx => ?_, by omega⟩
  unfold chkR
  have a1 : badR x = false := by
    cases hb : badR x with
    | false => rfl
    | true => exact absurd (List.any_eq_true.2 ⟨x, hx, hb⟩) h2
  have a2 : longR x = false := by
    cases hb : longR x with
    | false => rfl
    | true => exact absurd (.inr (List.any_eq_true.2 ⟨x, hx, hb⟩)) h3
  simp [a1, a2]
theorem encX_le (p : List UInt8) {x : Rw} (h : chkR x = 0) : (encX p x).length ≤ 2700 := by
  obtain ⟨_, _, _, hs2, _, hkl, hvl⟩ := chkR_ok h
  have c := (com_le p x.key.toList).2
  rw [toL_len] at c
  have u1 := Code.uvar_ten (n := com p x.key.toList) (by omega)
  have u2 := Code.uvar_ten (n := (x.key.toList.drop (com p x.key.toList)).length) (by rw [List.length_drop, toL_len]; omega)
  have u3 := Code.uvar_ten (n := x.seq) (by omega)
  have u4 := Code.uvar_ten (n := x.val.size) (by omega)
  have hd : (x.key.toList.drop (com p x.key.toList)).length ≤ 520 := by rw [List.length_drop, toL_len]; omega
  have hv : (valB x).length ≤ 2058 := by
    unfold valB
    split
    · rw [List.length_append, toL_len]; omega
    · simp
  unfold encX
  simp only [List.length_append, List.length_cons, List.length_nil] at *
  omega
theorem bodB_le (d : Nat) {l : List Rw} (h : ∀ x ∈ l, chkR x = 0) : ∀ n, n ≤ l.length → (bodB d l n).length ≤ 2700 * n
  | 0, _ => by simp [bodB]
  | n + 1, hn => by
    have ih := bodB_le d h n (by omega)
    have hx : chkR (rwAt l n) = 0 := by
      rw [rwAt_some (List.getElem?_eq_getElem (show n < l.length by omega))]
      exact h _ (List.getElem_mem _)
    have := encX_le (prvB d l n) hx
    rw [bodB_snoc, List.length_append]
    unfold encI
    omega
theorem tailB_len (r : List UInt8) (d : Nat) : (tailB r d).length = r.length + 8 := by simp [tailB, le4_len]
set_option maxRecDepth 100000 in
set_option maxHeartbeats 2000000 in
theorem build_bad {a : Option Addr} {n c b o : Nat} {l : List Rw} {w : World} (d : Int) (h : Rs a n c b o l w) (hc : chkA l d ≠ 0) :
    Calls Try.prog 11 #[.slice a n c, .int .i64 d] w fun e w' => e = .returned (.tuple #[.string ⟨#[]⟩, .int .i64 (chkA l d : Nat)]) ∧ Below w.heap.size w w' := by
  have C := Lib.hid (chkall_any d h)
  obtain ⟨R, hR⟩ := named (chkA l d)
  rw [← hR.out] at C hc ⊢
  have hcb : ((R : Int) != 0) = true := by simpa using hc
  clear h hR
  go_enter Try.func11, Try.ntmps11
  go_wp2_with (go_at_call 23; ((with_reducible refine C.out.mono ?_); rintro e w1 ⟨rfl, hb1⟩))
  go_returns
  exact ⟨rfl, hb1⟩
theorem rowAt_spares {b g : Nat} {x : Rw} {w w' : World} (h : RowAt b x w) (hf : Fr g w w') {B : Nat} {T : List UInt8} (hB : Bld B g T w) : RowAt b x w' := by
  obtain ⟨v, c, _, ho⟩ := hB.own
  obtain ⟨ds, hd⟩ := hB.at'
  refine ((hf.2 v c).1 b (Array.getElem?_eq_some_iff.1 h).1 (fun e => ?_) (fun e => ?_)).trans h
  · subst e
    unfold RowAt at h
    rw [h] at hd
    simp only [Option.some.injEq, Obj.cells.injEq] at hd
    exact absurd hd.2.1 (by decide)
  · obtain ⟨_, cs, hc⟩ := ho b e
    unfold RowAt at h
    rw [h] at hc
    simp only [Option.some.injEq, Obj.cells.injEq] at hc
    exact absurd hc.2.1 (by decide)
theorem RowAt.c4 {b xs : Nat} {xk xv : ByteArray} {xi : Int} {w : World} (h : RowAt b ⟨xk, xs, xi, xv⟩ w) : w.cell? ⟨b, 0, none⟩ = some (.string xk) ∧ w.cell? ⟨b, 1, none⟩ = some (.int .u64 (xs : Int)) ∧ w.cell? ⟨b, 2, none⟩ = some (.int .i64 xi) ∧ w.cell? ⟨b, 3, none⟩ = some (.string xv) := h.cells.1
/-- Build under way. -/
structure BuI (N : Nat) (w1 : World) (d : Nat) (l : List Rw) (T1 T2 : List UInt8) (p : Rw) (V : World) : Prop where
  pr : Pr N N (N + 1) T1 T2 V
  row : RowAt (N + 2) p V
  bel : Below N w1 V
  lo : N ≤ w1.heap.size
theorem BuI.keep {N : Nat} {w1 : World} {d : Nat} {l : List Rw} {T1 T2 : List UInt8} {p : Rw} {V V' : World} (h : BuI N w1 d l T1 T2 p V) (hb : Below V.heap.size V V') : BuI N w1 d l T1 T2 p V' :=
  ⟨h.pr.keep hb, h.row.below hb, h.bel.trans (hb.mono h.pr.lo), h.lo⟩
theorem BuI.wrote1 {N : Nat} {w1 : World} {d : Nat} {l : List Rw} {T1 T2 T : List UInt8} {p : Rw} {V V' : World} (h : BuI N w1 d l T1 T2 p V) (b : Bld N N T V') (hb : Below N V V') (hf : Fr N V V') : BuI N w1 d l T T2 p V' :=
  ⟨h.pr.wrote b hb hf, rowAt_spares h.row hf h.pr.one, h.bel.trans hb, h.lo⟩
theorem BuI.wrote2 {N : Nat} {w1 : World} {d : Nat} {l : List Rw} {T1 T2 T : List UInt8} {p : Rw} {V V' : World} (h : BuI N w1 d l T1 T2 p V) (b : Bld N (N + 1) T V') (hb : Below N V V') (hf : Fr (N + 1) V V') : BuI N w1 d l T1 T p V' :=
  ⟨(h.pr.swap.wrote b hb hf).swap, rowAt_spares h.row hf h.pr.two, h.bel.trans hb, h.lo⟩
theorem BuI.turned {N : Nat} {w1 : World} {d : Nat} {l : List Rw} {T1 T2 : List UInt8} {p x : Rw} {V V' : World} (h : BuI N w1 d l T1 T2 p V) (r : RowAt (N + 2) x V') (hb : But (N + 2) V V') : BuI N w1 d l T1 T2 x V' :=
  ⟨h.pr.but hb h.row (by decide) (by decide), r, h.bel.trans (hb.below (by omega) h.pr.lo), h.lo⟩
theorem bui_new (w1 : World) (d : Nat) (l : List Rw) : BuI w1.heap.size w1 d l [] [] rwZ (((w1.alloc (.cells #[.pointer none, .slice none 0 0] 53)).alloc (.cells #[.pointer none, .slice none 0 0] 53)).alloc (.cells #[.string ⟨#[]⟩, .int .u64 0, .int .i64 0, .string ⟨#[]⟩] 33)) := by
  have r := RowAt.new rwZ ((w1.alloc (.cells #[.pointer none, .slice none 0 0] 53)).alloc (.cells #[.pointer none, .slice none 0 0] 53))
  simp only [World.size_alloc] at r
  refine ⟨(pr_new w1).keep (below_alloc _ _), r, ?_, Nat.le_refl _⟩
  exact below_of (below_of (below_alloc _ _) (below_alloc _ _)) (below_alloc _ _)
set_option maxRecDepth 100000 in
set_option maxHeartbeats 4000000 in
theorem writer_new (w : World) : Calls Try.prog 24 #[] w fun e w' => e = .returned (.func (.func 40) #[] #[.pointer (some ⟨w.heap.size, 0, none⟩)]) ∧ w' = w.alloc (.cells #[.string ⟨#[]⟩, .int .u64 0, .int .i64 0, .string ⟨#[]⟩] 33) := by
  have hmf := makes_func
  go_enter Try.func24, Try.ntmps24
  go_wp2_with fail
  go_returns
  exact ⟨rfl, rfl⟩
theorem writer_enters : ∀ (args : Array Value) (w : World), (callFunc 40 args).run Try.prog w = .ok (.enter 40 args) w := enters_of Try.func40 (by kernel_rfl) rfl
set_option maxRecDepth 100000 in
set_option maxHeartbeats 4000000 in
theorem build_good {a : Option Addr} {n c b o : Nat} {l : List Rw} {w : World} (d : Nat) (h : Rs a n c b o l w) (hc : chkA l d = 0) :
    Calls Try.prog 11 #[.slice a n c, .int .i64 (d : Int)] w fun e w' => e = .returned (.tuple #[.string ⟨(buildB l d).1.toArray⟩, .int .i64 ((buildB l d).2 : Nat)]) ∧ Below w.heap.size w w' := by
  obtain ⟨k1, k2, _, k3, k4⟩ := chkA_ok hc
  have hE : Hid (buildB l d = if 65536 < (blkB d l).length then ([], 3) else (blkB d l, 0)) := Lib.hid (by unfold buildB; rw [if_neg (by simpa using hc)]; rfl)
  obtain ⟨R, hR⟩ := named (buildB l (d : Int))
  rw [← hR.out] at hE ⊢
  have C := Lib.hid (chkall_any d h)
  rw [hc] at C
  have hW := writer_new
  have hWE := writer_enters
  have PN := Lib.hid (fun k hk u => putnum_any k hk u)
  have BH := Lib.hid (fun r hr u => behind_any r hr d (by omega) u)
  have hlen := Lib.hid h.len
  have m0 := h.most
  have q0 := h.cap
  rw [h.len] at k4
  have d0 : (d : Int) ≠ 0 := by omega
  have k3 := Lib.hid k3
  have h := Lib.hid h
  clear hc
  go_enter Try.func11, Try.ntmps11
  go_wp2_with (first
    | (go_at_call 23; ((with_reducible refine C.out.mono ?_); rintro e w1 ⟨rfl, hb1⟩; have h1 := Lib.hid (h.out.below hb1 (Nat.le_refl _)); have hb1 := Lib.hid hb1))
    | (go_at_call 24; ((with_reducible refine (hW _).mono ?_); rintro e w2 ⟨rfl, rfl⟩)))
  have I0 := Lib.hid (bui_new w1 d l)
  generalize ((w1.alloc (.cells #[.pointer none, .slice none 0 0] 53)).alloc (.cells #[.pointer none, .slice none 0 0] 53)).alloc (.cells #[.string ⟨#[]⟩, .int .u64 0, .int .i64 0, .string ⟨#[]⟩] 33) = V0 at *
  go_loopw [23] (fun i wr => ∃ (j : Nat) (p : Rw), j ≤ n ∧ i = .int .i64 (j : Int) ∧ p.key.size ≤ 520 ∧ (j ≠ 0 → p = rwAt l (j - 1)) ∧ BuI w1.heap.size w1 d l (bodB d l j) (rstB d l j) p wr) (fun i _ => n - (intOf i).toNat)
  case atStart => exact ⟨0, rwZ, Nat.zero_le _, rfl, by decide, fun e => absurd rfl e, I0.out⟩
  case round =>
    clear I0
    obtain ⟨j, p, hj, rfl, hpk, hpj, hI⟩ := hrel
    by_cases hlt : j < n
    · obtain ⟨x, hx, rfl, x0, x1, x2, x3⟩ := (h1.out.below hI.bel (Nat.le_refl _)).at4 hlt
      have hx := Lib.hid hx
      have hxc := Lib.hid (k3.out x (List.mem_of_getElem? hx.out))
      have hxk : Hid (x.key.size ≤ 520) := Lib.hid (chkR_ok hxc.out).2.2.2.2.2.1
      have I1 := Lib.hid (hI.keep (below_alloc wr (.cells #[.string x.key, .int .u64 (x.seq : Int), .int .i64 x.kind, .string x.val] 33)))
      have X1 := Lib.hid (RowAt.new x wr)
      obtain ⟨K, hK⟩ := named (bodB d l j).length
      have hbo : Hid ((bodB d l j).length ≤ 2764800) := Lib.hid (by have := bodB_le d k3.out j (by rw [hlen.out]; omega); omega)
      have hbl : Hid (K < 4294967296) := Lib.hid (by rw [hK.out]; have := hbo.out; omega)
      have hln2 : Hid ((rstB d l j).length + (⟨(le4 K).toArray⟩ : ByteArray).size ≤ 140737488355328) := Lib.hid (by have := rstB_le d l j; show (rstB d l j).length + (le4 K).toArray.size ≤ _; rw [List.size_toArray, le4_len]; omega)
      have KL : ((bodB d l j).length : Int) = (K : Int) := by rw [hK.out]
      clear hI
      obtain ⟨xk, xs, xi, xv⟩ := x
      simp only at x0 x1 x2 x3
      by_cases hm : j % d = 0
      · obtain ⟨Z, hZ⟩ := named (encX (if (true : Bool) = true then [] else p.key.toList) ⟨xk, xs, xi, xv⟩)
        have hZl : Hid (Z.length ≤ 2700) := Lib.hid (by rw [hZ.out]; exact encX_le _ hxc.out)
        have WC : Hid (∀ V, RowAt (w1.heap.size + 1 + 1) p V → Calls Try.prog 40 #[.agg #[.string xk, .int .u64 (xs : Int), .int .i64 xi, .string xv], .bool true, .pointer (some ⟨w1.heap.size + 1 + 1, 0, none⟩)] V fun e w' => e = .returned (.string ⟨Z.toArray⟩) ∧ RowAt (w1.heap.size + 1 + 1) ⟨xk, xs, xi, xv⟩ w' ∧ But (w1.heap.size + 1 + 1) V w') := Lib.hid (fun V hV => by rw [hZ.out]; exact writer_any ⟨xk, xs, xi, xv⟩ p true _ V hV hxc.out hpk)
        have hrs : Hid (rstB d l (j + 1) = rstB d l j ++ le4 K) := Lib.hid (by rw [rstB_snoc, if_pos hm, ← hK.out])
        have hbs : Hid (bodB d l (j + 1) = bodB d l j ++ Z) := Lib.hid (by rw [bodB_snoc, hZ.out]; unfold encI prvB; rw [if_pos hm, rwAt_some hx.out]; rfl)
        have g2 : (((j : Int) % (d : Int)) == 0) = true := by rw [← Int.natCast_emod, hm]; rfl
        go_wp2_with (first
          | (go_at_call 27; ((with_reducible refine (bld_len I1.out.pr.one).mono ?_); rintro e v1 ⟨rfl, hb2⟩; have I2 := Lib.hid (I1.out.keep hb2); have X2 := Lib.hid (X1.out.below hb2); clear hb2))
          | (go_at_call 26; ((with_reducible refine (PN.out K hbl.out _).mono ?_); rintro e v2 ⟨rfl, hb3⟩; have I3 := Lib.hid (I2.out.keep hb3); have X3 := Lib.hid (X2.out.below hb3); clear hb3))
          | (go_at_call 25; ((with_reducible refine (bld_string_at I3.out.pr.two I3.out.pr.lo ⟨(le4 K).toArray⟩ hln2.out).mono ?_); rintro e v3 ⟨rfl, hB4, hb4, hf4⟩; have I4 := Lib.hid (I3.out.wrote2 hB4 hb4 hf4); have X4 := Lib.hid (rowAt_spares X3.out hf4 I3.out.pr.two); clear hB4 hb4 hf4; obtain ⟨y0, y1, y2, y3⟩ := X4.out.c4)))
        refine (WC.out _ I4.out.row).mono ?_
        rintro e v4 ⟨rfl, hr5, hb5⟩
        have I5 := Lib.hid (I4.out.turned hr5 hb5)
        clear hr5 hb5 y0 y1 y2 y3
        have hln1 : Hid ((bodB d l j).length + (⟨Z.toArray⟩ : ByteArray).size ≤ 140737488355328) := Lib.hid (by have := hZl.out; have := hbo.out; show (bodB d l j).length + Z.toArray.size ≤ _; rw [List.size_toArray]; omega)
        go_wp2_with (go_at_call 25; ((with_reducible refine (bld_string_at I5.out.pr.one I5.out.pr.lo ⟨Z.toArray⟩ hln1.out).mono ?_); rintro e v5 ⟨rfl, hB6, hb6, hf6⟩; have I6 := Lib.hid (I5.out.wrote1 hB6 hb6 hf6); clear hB6 hb6 hf6))
        go_roundw
        case rel =>
          refine ⟨j + 1, ⟨xk, xs, xi, xv⟩, by omega, by go_num, hxk.out, fun _ => ?_, ?_⟩
          · rw [Nat.add_sub_cancel, rwAt_some hx.out]
          · rw [hbs.out, hrs.out]; exact I6.out
        case measure => simp [intOf]; omega
      · obtain ⟨Z, hZ⟩ := named (encX (if (false : Bool) = true then [] else p.key.toList) ⟨xk, xs, xi, xv⟩)
        have hZl : Hid (Z.length ≤ 2700) := Lib.hid (by rw [hZ.out]; exact encX_le _ hxc.out)
        have WC : Hid (∀ V, RowAt (w1.heap.size + 1 + 1) p V → Calls Try.prog 40 #[.agg #[.string xk, .int .u64 (xs : Int), .int .i64 xi, .string xv], .bool false, .pointer (some ⟨w1.heap.size + 1 + 1, 0, none⟩)] V fun e w' => e = .returned (.string ⟨Z.toArray⟩) ∧ RowAt (w1.heap.size + 1 + 1) ⟨xk, xs, xi, xv⟩ w' ∧ But (w1.heap.size + 1 + 1) V w') := Lib.hid (fun V hV => by rw [hZ.out]; exact writer_any ⟨xk, xs, xi, xv⟩ p false _ V hV hxc.out hpk)
        have hrs : Hid (rstB d l (j + 1) = rstB d l j) := Lib.hid (by rw [rstB_snoc, if_neg hm, List.append_nil])
        have hbs : Hid (bodB d l (j + 1) = bodB d l j ++ Z) := Lib.hid (by
          have hj0 : j ≠ 0 := fun e => hm (by rw [e]; exact Nat.zero_mod d)
          rw [bodB_snoc, hZ.out]; unfold encI prvB; rw [if_neg hm, rwAt_some hx.out, ← (hpj hj0)]; rfl)
        have g2 : (((j : Int) % (d : Int)) == 0) = false := by rw [← Int.natCast_emod, beq_eq_false_iff_ne]; omega
        obtain ⟨y0, y1, y2, y3⟩ := X1.out.c4
        go_wp2_with fail
        refine (WC.out _ I1.out.row).mono ?_
        rintro e v4 ⟨rfl, hr5, hb5⟩
        have I5 := Lib.hid (I1.out.turned hr5 hb5)
        clear hr5 hb5 y0 y1 y2 y3
        have hln1 : Hid ((bodB d l j).length + (⟨Z.toArray⟩ : ByteArray).size ≤ 140737488355328) := Lib.hid (by have := hZl.out; have := hbo.out; show (bodB d l j).length + Z.toArray.size ≤ _; rw [List.size_toArray]; omega)
        go_wp2_with (go_at_call 25; ((with_reducible refine (bld_string_at I5.out.pr.one I5.out.pr.lo ⟨Z.toArray⟩ hln1.out).mono ?_); rintro e v5 ⟨rfl, hB6, hb6, hf6⟩; have I6 := Lib.hid (I5.out.wrote1 hB6 hb6 hf6); clear hB6 hb6 hf6))
        go_roundw
        case rel =>
          refine ⟨j + 1, ⟨xk, xs, xi, xv⟩, by omega, by go_num, hxk.out, fun _ => ?_, ?_⟩
          · rw [Nat.add_sub_cancel, rwAt_some hx.out]
          · rw [hbs.out, hrs.out]; exact I6.out
        case measure => simp [intOf]; omega
    · have hjn : j = n := by omega
      subst hjn
      have PR := Lib.hid hI.pr
      have BE := Lib.hid hI.bel
      have hbo : Hid ((bodB d l j).length ≤ 2764800) := Lib.hid (by have := bodB_le d k3.out j (by rw [hlen.out]; omega); omega)
      have hro : Hid ((rstB d l j).length ≤ 4096) := Lib.hid (by have := rstB_le d l j; omega)
      have hEl : Hid (blkB d l = bodB d l j ++ tailB (rstB d l j) d) := Lib.hid (by unfold blkB; rw [hlen.out])
      obtain ⟨Y, hY⟩ := named (bodB d l j)
      obtain ⟨Z, hZ⟩ := named (rstB d l j)
      rw [← hY.out, ← hZ.out] at PR hEl
      rw [← hY.out] at hbo
      rw [← hZ.out] at hro
      obtain ⟨T, hT⟩ := named (tailB Z d)
      have BH2 := Lib.hid (BH.out Z (by have := hro.out; omega))
      rw [← hT.out] at hEl BH2
      have hTl : T.length = Z.length + 8 := by rw [hT.out, tailB_len]
      have z1 : ¬ 9223372036854775807 < Y.length + T.length := by have := hbo.out; have := hro.out; omega
      rw [hEl.out] at hE
      rw [List.length_append] at hE
      clear hI hpj hY hZ hT hEl BH hbo hro hpk
      replace hTl := Lib.hid hTl
      by_cases hbig : 65536 < Y.length + T.length
      · rw [if_pos hbig] at hE
        have g1 : decide ((65536 : Int) < ((Y.length + T.length : Nat) : Int)) = true := by rw [decide_eq_true_eq]; omega
        have g2 : (65536 : Int) < (Y.length : Int) + (T.length : Int) := by omega
        go_wp2_with (first
          | (go_at_call 28; ((with_reducible refine (bld_read PR.out.one PR.out.lo).mono ?_); rintro e v1 ⟨rfl, hb2, hr2⟩; have B2 := Lib.hid (PR.out.read hr2); have BE2 := Lib.hid (BE.out.trans hb2); have lo2 := Lib.hid (Nat.le_trans PR.out.lo hr2.1); clear hb2 hr2))
          | (go_at_call 28; ((with_reducible refine (bld_text B2.out lo2.out).mono ?_); rintro e v2 ⟨rfl, hb3⟩; have BE3 := Lib.hid (BE2.out.trans hb3); clear hb3))
          | (go_at_call 29; ((with_reducible refine (BH2.out _).mono ?_); rintro e v3 ⟨rfl, hb4⟩; have BE4 := Lib.hid (BE3.out.trans (hb4.mono BE3.out.size)); clear hb4)))
        go_returns
        exact ⟨by rw [hE.out]; rfl, hb1.out.trans (BE4.out.mono hb1.out.size)⟩
      · rw [if_neg hbig] at hE
        have g1 : ¬ (65536 : Int) < (Y.length : Int) + (T.length : Int) := by omega
        go_wp2_with (first
          | (go_at_call 28; ((with_reducible refine (bld_read PR.out.one PR.out.lo).mono ?_); rintro e v1 ⟨rfl, hb2, hr2⟩; have B2 := Lib.hid (PR.out.read hr2); have BE2 := Lib.hid (BE.out.trans hb2); have lo2 := Lib.hid (Nat.le_trans PR.out.lo hr2.1); clear hb2 hr2))
          | (go_at_call 28; ((with_reducible refine (bld_text B2.out lo2.out).mono ?_); rintro e v2 ⟨rfl, hb3⟩; have BE3 := Lib.hid (BE2.out.trans hb3); clear hb3))
          | (go_at_call 29; ((with_reducible refine (BH2.out _).mono ?_); rintro e v3 ⟨rfl, hb4⟩; have BE4 := Lib.hid (BE3.out.trans (hb4.mono BE3.out.size)); clear hb4)))
        go_returns
        exact ⟨by rw [hE.out, ← cat_ba]; rfl, hb1.out.trans (BE4.out.mono hb1.out.size)⟩
theorem build_any {a : Option Addr} {n c b o : Nat} {l : List Rw} {w : World} (d : Int) (h : Rs a n c b o l w) :
    Calls Try.prog 11 #[.slice a n c, .int .i64 d] w fun e w' => e = .returned (.tuple #[.string ⟨(buildB l d).1.toArray⟩, .int .i64 ((buildB l d).2 : Nat)]) ∧ Below w.heap.size w w' := by
  by_cases hc : chkA l d = 0
  · obtain ⟨k1, _⟩ := chkA_ok hc
    obtain ⟨D, rfl⟩ : ∃ D : Nat, d = (D : Int) := ⟨d.toNat, by omega⟩
    exact build_good D h hc
  · have := build_bad d h hc
    unfold buildB
    rw [if_pos hc]
    exact this
end Go.Proofs.Ytnmlifagchdphaa
