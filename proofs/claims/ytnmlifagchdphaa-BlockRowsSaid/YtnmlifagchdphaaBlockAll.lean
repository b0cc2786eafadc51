/-
  The contract of checkAll. No condition.
-/
import Derived.Test.YtnmlifagchdphaaBlockOrder
namespace Go.Proofs.Ytnmlifagchdphaa
set_option maxRecDepth 100000
open Go.RowKit
def sofR (long : Bool) (l : List Rw) : Nat := if long = true ∨ l.any longR = true then 3 else 0
theorem sofR_nil (long : Bool) : sofR long [] = if long = true then 3 else 0 := by simp [sofR]
theorem sofR_snoc {long : Bool} {l : List Rw} {x : Rw} (h : badR x = false) : sofR long (l ++ [x]) = if chkR x = 3 then 3 else sofR long l := by
  unfold sofR chkR
  rw [h]
  cases h2 : longR x <;> simp [h2]
theorem chkR_two {x : Rw} : chkR x = 2 ↔ badR x = true := by
  unfold chkR
  split
  · simp [*]
  · split <;> simp [*]
theorem chkR_zero {x : Rw} (h : badR x = false) : chkR x = 3 ∨ chkR x = 0 := by
  unfold chkR
  rw [h]
  cases longR x <;> simp
theorem chkA_arg {l : List Rw} {d : Int} (h : d < 1 ∨ 64 < d ∨ ordR l = false) : chkA l d = 2 := by unfold chkA; rw [if_pos h]
theorem chkA_bad {l : List Rw} {d : Int} (h : l.any badR = true) : chkA l d = 2 := by
  unfold chkA
  rw [if_pos h]
  split <;> rfl
theorem chkA_end {l : List Rw} {d : Int} (h : ¬ (d < 1 ∨ 64 < d ∨ ordR l = false)) (hb : l.any badR = false) : chkA l d = sofR (decide (1024 < l.length)) l := by
  unfold chkA sofR
  rw [if_neg h, hb]
  simp
set_option maxRecDepth 100000 in
set_option maxHeartbeats 2000000 in
theorem chkall_arg {a : Option Addr} {n c b o : Nat} {l : List Rw} {w : World} (d : Int) (h : Rs a n c b o l w) (hE : d < 1 ∨ 64 < d ∨ ordR l = false) :
    Calls Try.prog 23 #[.slice a n c, .int .i64 d] w fun e w' => e = .returned (.int .i64 2) ∧ Below w.heap.size w w' := by
  have OC := Lib.hid (order_any h)
  obtain ⟨T, hT⟩ := named (ordR l)
  rw [← hT.out] at OC hE
  by_cases h1 : d < 1
  · have g1 : decide (d < 1) = true := by simpa using h1
    go_enter Try.func23, Try.ntmps23
    go_wp2_with fail
    go_returns
    exact ⟨rfl, Below.refl _ _⟩
  · have g1 : decide (d < 1) = false := by simpa using h1
    by_cases h2 : 64 < d
    · have g2 : decide (64 < d) = true := by simpa using h2
      clear hE
      go_enter Try.func23, Try.ntmps23
      go_wp2_with fail
      go_returns
      exact ⟨rfl, Below.refl _ _⟩
    · have g2 : decide (64 < d) = false := by simpa using h2
      obtain rfl : T = false := by rcases hE with e | e | e; exact absurd e h1; exact absurd e h2; exact e
      clear hE
      go_enter Try.func23, Try.ntmps23
      go_wp2_with (go_at_call 12; ((with_reducible refine OC.out.mono ?_); rintro e w2 ⟨rfl, hb2⟩; have B2 := Lib.hid hb2; clear hb2))
      go_returns
      exact ⟨rfl, B2.out⟩
set_option maxRecDepth 100000 in
set_option maxHeartbeats 4000000 in
theorem chkall_main {a : Option Addr} {n c b o : Nat} {l : List Rw} {w : World} (d : Int) (h : Rs a n c b o l w) (h1 : 1 ≤ d) (h2 : d ≤ 64) (ho : ordR l = true) :
    Calls Try.prog 23 #[.slice a n c, .int .i64 d] w fun e w' => e = .returned (.int .i64 (chkA l d : Nat)) ∧ Below w.heap.size w w' := by
  have OC := Lib.hid (order_any h)
  rw [ho] at OC
  have hcap := h.cap
  have hmost := h.most
  have hE := Lib.hid (fun hb => chkA_end (l := l) (d := d) (by rw [ho]; simp; omega) hb)
  have hbad := Lib.hid (fun hb : l.any badR = true => chkA_bad (d := d) hb)
  have hlen := Lib.hid h.len
  obtain ⟨R, hR⟩ := named (chkA l d)
  rw [← hR.out] at hE hbad ⊢
  rw [hlen.out] at hE
  have h := Lib.hid h
  clear hR ho
  have q1 : decide (d < 1) = false := by simpa using h1
  have q2 : decide (64 < d) = false := by simpa using h2
  clear h1 h2
  obtain ⟨B64, q3⟩ : ∃ B, decide ((1024 : Int) < (n : Int)) = B := ⟨_, rfl⟩
  have h64 : Hid (decide (1024 < n) = B64) := Lib.hid (by rw [← q3]; congr 1; apply propext; omega)
  cases B64
  all_goals (
    go_enter Try.func23, Try.ntmps23
    go_wp2_with (go_at_call 12; ((with_reducible refine OC.out.mono ?_); rintro e w0 ⟨rfl, hb0⟩; have K := Lib.hid hb0; clear hb0))
    have hst := Lib.hid (h.out.below K.out (Nat.le_refl _))
    have st0 : Hid (sofR (decide (1024 < n)) [] = if 1024 < n then 3 else 0) := Lib.hid (by rw [sofR_nil]; simp)
    go_loopw [24, 5] (fun i e wr => ∃ j : Nat, j ≤ n ∧ i = .int .i64 (j : Int) ∧ e = .int .i64 (sofR (decide (1024 < n)) (l.take j) : Nat) ∧ (l.take j).any badR = false ∧ Below w.heap.size w wr) (fun i _ _ => n - (intOf i).toNat)
    case atStart => exact ⟨0, Nat.zero_le _, rfl, (by rw [List.take_zero, st0.out]; have := h64.out; simp only [decide_eq_true_eq, decide_eq_false_iff_not] at this; first | (rw [if_pos (by omega)]; rfl) | (rw [if_neg (by omega)]; rfl)), by simp, K.out⟩
    case round =>
      obtain ⟨j, hj, rfl, rfl, hany, hb⟩ := hrel
      have hb := Lib.hid hb
      have hany := Lib.hid hany
      obtain ⟨S, hS⟩ := named (sofR (decide (1024 < n)) (l.take j))
      rw [← hS.out]
      by_cases hlt : j < n
      · obtain ⟨x, hx, rfl, e0, e1, e2, e3⟩ := (h.out.keep (w' := wr) (fun h0 => hb.out.block b (h.out.addr h0).2) hb.out.size).at4 hlt
        have hx := Lib.hid hx
        obtain ⟨xk, xs, xi, xv⟩ := x
        obtain ⟨r, hr⟩ := named (chkR ⟨xk, xs, xi, xv⟩)
        have C : Hid (∀ u, Calls Try.prog 39 #[.agg #[.string xk, .int .u64 (xs : Int), .int .i64 xi, .string xv]] u fun e w' => e = .returned (.int .i64 (r : Nat)) ∧ Below u.heap.size u w') := Lib.hid fun u => by rw [hr.out]; exact chk_any ⟨xk, xs, xi, xv⟩ u
        simp only at e0 e1 e2 e3
        have take1 : Hid (l.take (j + 1) = l.take j ++ [⟨xk, xs, xi, xv⟩]) := Lib.hid (by rw [List.take_add_one, hx.out]; rfl)
        by_cases hxb : badR ⟨xk, xs, xi, xv⟩ = true
        · have r2 : r = 2 := by rw [hr.out]; exact chkR_two.2 hxb
          have hR2 := Lib.hid (hbad.out (List.any_eq_true.2 ⟨_, List.mem_of_getElem? hx.out, hxb⟩))
          subst r2
          clear hxb hr
          go_wp2_with (go_at_call 39; ((with_reducible refine (C.out _).mono ?_); rintro e w1 ⟨rfl, hb1⟩))
          go_returns
          exact ⟨by rw [hR2.out]; rfl, (hb.out.trans ((below_alloc _ _).mono hb.out.size)).trans (hb1.mono (by have := hb.out.size; simp; omega))⟩
        · have hxf : badR ⟨xk, xs, xi, xv⟩ = false := by simpa using hxb
          have any1 : Hid ((l.take (j + 1)).any badR = false) := Lib.hid (by rw [take1.out, List.any_append, hany.out]; simp [hxf])
          have so1 : Hid (sofR (decide (1024 < n)) (l.take (j + 1)) = if r = 3 then 3 else S) := Lib.hid (by rw [take1.out, sofR_snoc hxf, ← hr.out, ← hS.out])
          have r30 : r = 3 ∨ r = 0 := by rw [hr.out]; exact chkR_zero hxf
          clear hxb hr hxf hS hany take1
          rcases r30 with rfl | rfl
          all_goals (
            go_wp2_with (go_at_call 39; ((with_reducible refine (C.out _).mono ?_); rintro e w1 ⟨rfl, hb1⟩))
            have hb2 := Lib.hid ((hb.out.trans ((below_alloc _ _).mono hb.out.size)).trans (hb1.mono (by have := hb.out.size; simp; omega)))
            clear hb1
            go_roundw
            case rel => exact ⟨j + 1, by omega, by go_num, by rw [so1.out]; rfl, any1.out, hb2.out⟩
            case measure => simp [intOf]; omega)
      · have hjn : j = n := by omega
        subst hjn
        have hR0 : R = S := by
          have ht : l.take j = l := by rw [← hlen.out, List.take_length]
          have := hany.out
          rw [ht] at this
          rw [hE.out this, hS.out, ht]
        go_wp2_with fail
        go_returns
        exact ⟨by rw [hR0]; rfl, hb.out⟩)
theorem chkall_any {a : Option Addr} {n c b o : Nat} {l : List Rw} {w : World} (d : Int) (h : Rs a n c b o l w) :
    Calls Try.prog 23 #[.slice a n c, .int .i64 d] w fun e w' => e = .returned (.int .i64 (chkA l d : Nat)) ∧ Below w.heap.size w w' := by
  by_cases hE : d < 1 ∨ 64 < d ∨ ordR l = false
  · rw [chkA_arg hE]
    exact chkall_arg d h hE
  · exact chkall_main d h (by omega) (by omega) (by cases ho : ordR l; exact absurd (.inr (.inr ho)) hE; rfl)
end Go.Proofs.Ytnmlifagchdphaa
