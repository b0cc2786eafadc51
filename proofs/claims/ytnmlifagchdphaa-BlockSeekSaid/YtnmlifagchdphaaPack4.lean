/-
  The contract of checkAll. No condition.
-/
import Derived.Test.YtnmlifagchdphaaPack3
import Derived.Test.YtnmlifagchdphaaShelf
import Derived.Deep.RegionWith
import Derived.Deep.Cut
import Derived.Deep.DeepCutAuto
namespace Go.Proofs.Ytnmlifagchdphaa
set_option maxRecDepth 100000
open Go.RowKit
def sofR (long : Bool) (l : List Rw) : Nat := if long = true ∨ l.any longR = true then 3 else 0
theorem sofR_nil (long : Bool) : sofR long [] = if long = true then 3 else 0 := by simp [sofR]
theorem sofR_snoc {long : Bool} {l : List Rw} {x : Rw} (h : badR x = false) : sofR long (l ++ [x]) = if chkR x = 3 then 3 else sofR long l := by
  unfold sofR chkR
  rw [h]
  cases h2 : longR x <;> simp [h2]
theorem chkR_two {x : Rw} : chkR x = 2 ↔ badR x = true := by
  unfold chkR
  split
  · simp [*]
  · split <;> simp [*]
theorem chkR_zero {x : Rw} (h : badR x = false) : chkR x = 3 ∨ chkR x = 0 := by
  unfold chkR
  rw [h]
  cases longR x <;> simp
theorem chkA_arg {l : List Rw} {d : Int} (h : d < 1 ∨ 64 < d ∨ ordR l = false) : chkA l d = 2 := by unfold chkA; rw [if_pos h]
theorem chkA_bad {l : List Rw} {d : Int} (h : l.any badR = true) : chkA l d = 2 := by
  unfold chkA
  rw [if_pos h]
  split <;> rfl
theorem chkA_end {l : List Rw} {d : Int} (h : ¬ (d < 1 ∨ 64 < d ∨ ordR l = false)) (hb : l.any badR = false) : chkA l d = sofR (decide (1024 < l.length)) l := by
  unfold chkA sofR
  rw [if_neg h, hb]
  simp
set_option maxRecDepth 100000 in
set_option maxHeartbeats 2000000 in
theorem chkall_arg {a : Option Addr} {n c b o : Nat} {l : List Rw} {w : World} (d : Int) (h : Rs a n c b o l w) (hE : d < 1 ∨ 64 < d ∨ ordR l = false) :
    Calls Try.prog 23 #[.slice a n c, .int .i64 d] w fun e w' => e = .returned (.int .i64 2) ∧ Below w.heap.size w w' := by
  have OC := Lib.hid (order_any h)
  obtain ⟨T, hT⟩ := named (ordR l)
  rw [← hT.out] at OC hE
  by_cases h1 : d < 1
  · have g1 : decide (d < 1) = true := by simpa using h1
    go_enter Try.func23, Try.ntmps23
    go_wp2_with fail
    go_returns
    exact ⟨rfl, Below.refl _ _⟩
  · have g1 : decide (d < 1) = false := by simpa using h1
    by_cases h2 : 64 < d
    · have g2 : decide (64 < d) = true := by simpa using h2
      clear hE
      go_enter Try.func23, Try.ntmps23
      go_wp2_with fail
      go_returns
      exact ⟨rfl, Below.refl _ _⟩
    · have g2 : decide (64 < d) = false := by simpa using h2
      obtain rfl : T = false := by rcases hE with e | e | e; exact absurd e h1; exact absurd e h2; exact e
      clear hE
      go_enter Try.func23, Try.ntmps23
      go_wp2_with (go_at_call 12; ((with_reducible refine OC.out.mono ?_); rintro e w2 ⟨rfl, hb2⟩; have B2 := Lib.hid hb2; clear hb2))
      go_returns
      exact ⟨rfl, B2.out⟩
set_option maxRecDepth 100000 in
set_option maxHeartbeats 4000000 in
theorem chkall_main {a : Option Addr} {n c b o : Nat} {l : List Rw} {w : World} (d : Int) (h : Rs a n c b o l w) (h1 : 1 ≤ d) (h2 : d ≤ 64) (ho : ordR l = true) :
    Calls Try.prog 23 #[.slice a n c, .int .i64 d] w fun e w' => e = .returned (.int .i64 (chkA l d : Nat)) ∧ Below w.heap.size w w' := by
  have OC := Lib.hid (order_any h)
  rw [ho] at OC
  have hcap := h.cap
  have hmost := h.most
  have hE := Lib.hid (fun hb => chkA_end (l := l) (d := d) (by rw [ho]; simp; omega) hb)
  have hbad := Lib.hid (fun hb : l.any badR = true => chkA_bad (d := d) hb)
  have hlen := Lib.hid h.len
  obtain ⟨R, hR⟩ := named (chkA l d)
  rw [← hR.out] at hE hbad ⊢
  rw [hlen.out] at hE
  have h := Lib.hid h
  clear hR ho
  have q1 : decide (d < 1) = false := by simpa using h1
  have q2 : decide (64 < d) = false := by simpa using h2
  clear h1 h2
  obtain ⟨B64, q3⟩ : ∃ B, decide ((1024 : Int) < (n : Int)) = B := ⟨_, rfl⟩
  have h64 : Hid (decide (1024 < n) = B64) := Lib.hid (by rw [← q3]; congr 1; apply propext; omega)
  cases B64
  all_goals (
    go_enter Try.func23, Try.ntmps23
    go_wp2_with (go_at_call 12; ((with_reducible refine OC.out.mono ?_); rintro e w0 ⟨rfl, hb0⟩; have K := Lib.hid hb0; clear hb0))
    have hst := Lib.hid (h.out.below K.out (Nat.le_refl _))
    have st0 : Hid (sofR (decide (1024 < n)) [] = if 1024 < n then 3 else 0) := Lib.hid (by rw [sofR_nil]; simp)
    go_loopw [24, 5] (fun i e wr => ∃ j : Nat, j ≤ n ∧ i = .int .i64 (j : Int) ∧ e = .int .i64 (sofR (decide (1024 < n)) (l.take j) : Nat) ∧ (l.take j).any badR = false ∧ Below w.heap.size w wr) (fun i _ _ => n - (intOf i).toNat)
    case atStart => exact ⟨0, Nat.zero_le _, rfl, (by rw [List.take_zero, st0.out]; have := h64.out; simp only [decide_eq_true_eq, decide_eq_false_iff_not] at this; first | (rw [if_pos (by omega)]; rfl) | (rw [if_neg (by omega)]; rfl)), by simp, K.out⟩
    case round =>
      obtain ⟨j, hj, rfl, rfl, hany, hb⟩ := hrel
      have hb := Lib.hid hb
      have hany := Lib.hid hany
      obtain ⟨S, hS⟩ := named (sofR (decide (1024 < n)) (l.take j))
      rw [← hS.out]
      by_cases hlt : j < n
      · obtain ⟨x, hx, rfl, e0, e1, e2, e3⟩ := (h.out.keep (w' := wr) (fun h0 => hb.out.block b (h.out.addr h0).2) hb.out.size).at4 hlt
        have hx := Lib.hid hx
        obtain ⟨xk, xs, xi, xv⟩ := x
        obtain ⟨r, hr⟩ := named (chkR ⟨xk, xs, xi, xv⟩)
        have C : Hid (∀ u, Calls Try.prog 39 #[.agg #[.string xk, .int .u64 (xs : Int), .int .i64 xi, .string xv]] u fun e w' => e = .returned (.int .i64 (r : Nat)) ∧ Below u.heap.size u w') := Lib.hid fun u => by rw [hr.out]; exact chk_any ⟨xk, xs, xi, xv⟩ u
        simp only at e0 e1 e2 e3
        have take1 : Hid (l.take (j + 1) = l.take j ++ [⟨xk, xs, xi, xv⟩]) := Lib.hid (by rw [List.take_add_one, hx.out]; rfl)
        by_cases hxb : badR ⟨xk, xs, xi, xv⟩ = true
        · have r2 : r = 2 := by rw [hr.out]; exact chkR_two.2 hxb
          have hR2 := Lib.hid (hbad.out (List.any_eq_true.2 ⟨_, List.mem_of_getElem? hx.out, hxb⟩))
          subst r2
          clear hxb hr
          go_wp2_with (go_at_call 39; ((with_reducible refine (C.out _).mono ?_); rintro e w1 ⟨rfl, hb1⟩))
          go_returns
          exact ⟨by rw [hR2.out]; rfl, (hb.out.trans ((below_alloc _ _).mono hb.out.size)).trans (hb1.mono (by have := hb.out.size; simp; omega))⟩
        · have hxf : badR ⟨xk, xs, xi, xv⟩ = false := by simpa using hxb
          have any1 : Hid ((l.take (j + 1)).any badR = false) := Lib.hid (by rw [take1.out, List.any_append, hany.out]; simp [hxf])
          have so1 : Hid (sofR (decide (1024 < n)) (l.take (j + 1)) = if r = 3 then 3 else S) := Lib.hid (by rw [take1.out, sofR_snoc hxf, ← hr.out, ← hS.out])
          have r30 : r = 3 ∨ r = 0 := by rw [hr.out]; exact chkR_zero hxf
          clear hxb hr hxf hS hany take1
          rcases r30 with rfl | rfl
          all_goals (
            go_wp2_with (go_at_call 39; ((with_reducible refine (C.out _).mono ?_); rintro e w1 ⟨rfl, hb1⟩))
            have hb2 := Lib.hid ((hb.out.trans ((below_alloc _ _).mono hb.out.size)).trans (hb1.mono (by have := hb.out.size; simp; omega)))
            clear hb1
            go_roundw
            case rel => exact ⟨j + 1, by omega, by go_num, by rw [so1.out]; rfl, any1.out, hb2.out⟩
            case measure => simp [intOf]; omega)
      · have hjn : j = n := by omega
        subst hjn
        have hR0 : R = S := by
          have ht : l.take j = l := by rw [← hlen.out, List.take_length]
          have := hany.out
          rw [ht] at this
          rw [hE.out this, hS.out, ht]
        go_wp2_with fail
        go_returns
        exact ⟨by rw [hR0]; rfl, hb.out⟩)
theorem chkall_any {a : Option Addr} {n c b o : Nat} {l : List Rw} {w : World} (d : Int) (h : Rs a n c b o l w) :
    Calls Try.prog 23 #[.slice a n c, .int .i64 d] w fun e w' => e = .returned (.int .i64 (chkA l d : Nat)) ∧ Below w.heap.size w w' := by
  by_cases hE : d < 1 ∨ 64 < d ∨ ordR l = false
  · rw [chkA_arg hE]
    exact chkall_arg d h hE
  · exact chkall_main d h (by omega) (by omega) (by cases ho : ordR l; exact absurd (.inr (.inr ho)) hE; rfl)
end Go.Proofs.Ytnmlifagchdphaa
/-
  The contracts of code.Ord, code.PutOrd and of the document's own: each answers the plain mathematics' ordered number. Condition: a text of a length that there is; a number of 64 bits.
-/
namespace Go.Proofs.Ytnmlifagchdphaa
set_option maxRecDepth 100000
open Go.RowKit
theorem ord_up {n : Int} (h : -9223372036854775808 ≤ n ∧ n ≤ 9223372036854775807) : ∃ U : Nat, U < 2 ^ 64 ∧ n = (U : Int) - 9223372036854775808 := ⟨(n + 9223372036854775808).toNat, by omega, by omega⟩
theorem byte_div (U i : Nat) : ((U / 256 ^ i : Nat) : Int) % 256 = ((UInt8.ofNat (U / 256 ^ i)).toNat : Int) := by rw [UInt8.toNat_ofNat']; omega
theorem ord_in (U : Nat) (hU : U < 2 ^ 64) : IntKind.u64.wrap (IntKind.u64.wrap ((U : Int) - 9223372036854775808) + 9223372036854775808) = (U : Int) := by
  rw [IntKind.wrap_u64, IntKind.wrap_u64]; omega
theorem or_byte (u : Nat) (c : UInt8) (h : u * 256 + c.toNat < 2 ^ 64) : bits .or .u64 ((u : Int) * 256) (c.toNat : Int) = ((u * 256 + c.toNat : Nat) : Int) := by
  have hc := UInt8.toNat_lt c
  have h1 : u * 256 < 2 ^ 64 := Nat.lt_of_le_of_lt (Nat.le_add_right _ _) h
  have h2 : c.toNat < 2 ^ 64 := Nat.lt_of_le_of_lt (Nat.le_add_left _ _) h
  have e0 : ((u * 256 : Nat) : Int) = (u : Int) * 256 := Int.natCast_mul u 256
  have h3 := or64_nat h1 h2
  rw [e0] at h3
  rw [h3]
  have := Nat.two_pow_add_eq_or_of_lt (i := 8) (b := c.toNat) hc u
  rw [Nat.mul_comm] at this
  rw [← this]
theorem ord_out (U : Nat) (hU : U < 2 ^ 64) : IntKind.i64.wrap (IntKind.u64.wrap ((U : Int) - 9223372036854775808)) = (U : Int) - 9223372036854775808 := by
  rw [IntKind.wrap_u64, IntKind.wrap_i64]; omega
end Go.Proofs.Ytnmlifagchdphaa
/-
  The contracts of code.PutText, of the document's own, and of code.PutField. Condition: a text of at most 2^31 bytes; the library's one variable holds some number.
-/
namespace Go.Proofs.Ytnmlifagchdphaa
set_option maxRecDepth 100000
open Go.RowKit
theorem below_after1 {w w' : World} {o : Obj} (h : Below (w.alloc o).drew.heap.size (w.alloc o).drew w') : Below w.heap.size w w' :=
  (below_alloc w o).drew.trans (h.mono (by show w.heap.size ≤ (w.alloc o).heap.size; simp))
theorem below_after2 {w w' : World} {o o' : Obj} (h : Below ((w.alloc o).alloc o').drew.heap.size ((w.alloc o).alloc o').drew w') : Below w.heap.size w w' :=
  ((below_alloc w o).alloc (by simp) o').drew.trans (h.mono (by show w.heap.size ≤ ((w.alloc o).alloc o').heap.size; simp; omega))
theorem two_text (x y : UInt8) (u : World) (g : Nat) (h0 : u.cell? ⟨g, 0, none⟩ = some (.int .u8 (x.toNat : Int))) (h1 : u.cell? ⟨g, 1, none⟩ = some (.int .u8 (y.toNat : Int))) :
    (convert 51 9 (.slice (some ⟨g, 0, none⟩) 2 2)).run Try.prog u = .ok (.string ⟨#[x, y]⟩) u := by
  have := run_convert_bytes_arg (P := Try.prog) u 51 5 Try.underlying51 Try.underlying5 g 0 2 2 [(x.toNat : Int), (y.toNat : Int)] rfl (by
    intro i hi
    rcases (show i = 0 ∨ i = 1 by omega) with rfl | rfl
    · exact h0
    · exact h1) 9 Try.underlying9
  rw [this]
  congr 2
  simp [strOfNums]
theorem putfield_any (t : ByteArray) (ht : t.size ≤ reachBytes) (w : World) :
    Calls Try.prog 43 #[.string t] w fun e w' => e = .returned (.string ⟨(Code.uvar t.size ++ t.data.toList).toArray⟩) ∧ Below w.heap.size w w' := by
  unfold reachBytes at ht
  have hl := Code.uvar_ten (n := t.size) (by omega)
  have C := putuint_any t.size (by omega)
  obtain ⟨V, hV⟩ := named (Code.uvar t.size)
  rw [← hV.out] at hl C ⊢
  have CC := Lib.hid C
  clear C
  have hcon : (⟨V.toArray⟩ : ByteArray) ++ t = ⟨(V ++ t.data.toList).toArray⟩ := by
    apply ByteArray.ext; rw [ByteArray.data_append]; apply Array.toList_inj.1; simp
  go_enter Try.func43, Try.ntmps43
  go_wp2_with (go_at_call 42; ((with_reducible refine (CC.out _).mono ?_); rintro e w' ⟨rfl, hb⟩))
  go_ret
  exact ⟨by rw [← hcon]; rfl, hb⟩
end Go.Proofs.Ytnmlifagchdphaa
/-
  The contract of the closure that writes a row behind the one that it remembers. Condition: a valid row.
-/
namespace Go.Proofs.Ytnmlifagchdphaa
set_option maxRecDepth 100000
open Go.RowKit
theorem putfield_list (D : List UInt8) (h : D.length ≤ 4096) (w : World) :
    Calls Try.prog 43 #[.string ⟨D.toArray⟩] w fun e w' => e = .returned (.string ⟨(Code.uvar D.length ++ D).toArray⟩) ∧ Below w.heap.size w w' := by
  have hz : (⟨D.toArray⟩ : ByteArray).size = D.length := by show D.toArray.size = _; simp
  have := putfield_any ⟨D.toArray⟩ (by rw [hz]; unfold reachBytes; omega) w
  rw [hz] at this
  exact this
theorem text_of (k : Nat) (hk : k < 256) (u : World) (g : Nat) (h0 : u.cell? ⟨g, 0, none⟩ = some (.int .u8 (k : Int))) : (convert 51 9 (.slice (some ⟨g, 0, none⟩) 1 1)).run Try.prog u = .ok (.string ⟨[UInt8.ofNat k].toArray⟩) u := by
  refine run_convert_bytes_back u _ _ 5 ⟨g, 0, none⟩ 1 [UInt8.ofNat k] Try.underlying51 Try.underlying5 Try.underlying9 ?_
  intro j hj
  have : j = 0 := by simpa using hj
  subst this
  simp [Addr.add, h0]
  omega
theorem rowAt_put {b : Nat} {y : Rw} {W : World} (h : RowAt b y W) (x : Rw) : RowAt b x ((((W.setCell ⟨b, 0, none⟩ (.string x.key)).setCell ⟨b, 1, none⟩ (.int .u64 (x.seq : Int))).setCell ⟨b, 2, none⟩ (.int .i64 x.kind)).setCell ⟨b, 3, none⟩ (.string x.val)) :=
  (heap_setCell_same _ _ _ _ _ _ ((heap_setCell_same _ _ _ _ _ _ ((heap_setCell_same _ _ _ _ _ _ ((heap_setCell_same _ _ _ _ _ _ h).trans rfl)).trans rfl)).trans rfl)).trans rfl
theorem but_put4 (b : Nat) (W : World) (x : Rw) : But b W ((((W.setCell ⟨b, 0, none⟩ (.string x.key)).setCell ⟨b, 1, none⟩ (.int .u64 (x.seq : Int))).setCell ⟨b, 2, none⟩ (.int .i64 x.kind)).setCell ⟨b, 3, none⟩ (.string x.val)) :=
  ((((But.refl b W).setCell rfl _).setCell rfl _).setCell rfl _).setCell rfl _
theorem RowAt.but {b c : Nat} {x : Rw} {w w' : World} (h : RowAt c x w) (hb : But b w w') (hc : c ≠ b) : RowAt c x w' := (hb.block c (Array.getElem?_eq_some_iff.1 h).1 hc).trans h
theorem but_new {w w' : World} {b : Nat} {o : Obj} (h : But b (w.alloc o) w') : But b w w' := (But.of_below (below_alloc w o) (Nat.le_refl _)).trans h
set_option maxRecDepth 100000 in
set_option maxHeartbeats 8000000 in
theorem writer_any (x p : Rw) (f : Bool) (b : Nat) (w : World) (hp : RowAt b p w) (hx : chkR x = 0) (hpk : p.key.size ≤ 520) :
    Calls Try.prog 40 #[rowV x, .bool f, .pointer (some ⟨b, 0, none⟩)] w fun e w' => e = .returned (.string ⟨(encX (if f = true then [] else p.key.toList) x).toArray⟩) ∧ RowAt b x w' ∧ But b w w' := by
  obtain ⟨hk, _, hs1, hs2, _, hkl, hvl⟩ := chkR_ok hx
  have hb0 : b < w.heap.size := (Array.getElem?_eq_some_iff.1 hp).1
  have R0 := RowAt.new x w
  have W0 := Lib.hid (below_alloc w (.cells #[.string x.key, .int .u64 (x.seq : Int), .int .i64 x.kind, .string x.val] 33))
  have hp1 := hp.below W0.out
  obtain ⟨P, hP⟩ := named (if f = true then [] else p.key.toList)
  obtain ⟨c, hc⟩ := named (com P x.key.toList)
  have hc1 : c ≤ x.key.size := by rw [hc.out, ← toL_len]; exact (com_le _ _).2
  have hcf : Hid (f = true → c = 0) := Lib.hid (fun hf => by rw [hc.out, hP.out, if_pos hf, com_nil])
  have hcn : Hid (f = false → c = com p.key.toList x.key.toList) := Lib.hid (fun hf => by rw [hc.out, hP.out, if_neg (by rw [hf]; decide)])
  have CM := Lib.hid (fun u => common_any p.key x.key (by unfold maxLen; omega) (by unfold maxLen; omega) u)
  have hE : Hid (encX P x = Code.uvar c ++ (Code.uvar (x.key.toList.drop c).length ++ x.key.toList.drop c) ++ Code.uvar x.seq ++ [UInt8.ofNat x.kind.toNat] ++ valB x) := Lib.hid (by unfold encX; rw [← hc.out])
  have hV1 : Hid (x.kind = 1 → valB x = Code.uvar x.val.size ++ x.val.toList) := Lib.hid (fun h => by unfold valB; rw [if_pos h])
  have hV2 : Hid (x.kind ≠ 1 → valB x = []) := Lib.hid (fun h => by unfold valB; rw [if_neg h])
  rw [← hP.out]
  obtain ⟨E, hE2⟩ := named (encX P x)
  rw [← hE2.out] at hE ⊢
  obtain ⟨VB, hVB⟩ := named (valB x)
  rw [← hVB.out] at hE hV1 hV2
  obtain ⟨k, hk2⟩ : ∃ k : Nat, x.kind = (k : Int) := ⟨x.kind.toNat, by omega⟩
  have hk12 : k = 1 ∨ k = 2 := by omega
  clear hVB hE2 hP hc hk
  obtain ⟨xk, xs, xi, xv⟩ := x
  simp only at *
  subst hk2
  obtain ⟨D, hD⟩ := named (xk.toList.drop c)
  have hDl : D.length ≤ 520 := by rw [hD.out, List.length_drop, toL_len]; omega
  have SLF := sl_from xk c hc1 _ rfl
  rw [← hD.out] at SLF hE
  obtain ⟨A1, hA1⟩ := named (Code.uvar c)
  obtain ⟨A2, hA2⟩ := named (Code.uvar D.length ++ D)
  obtain ⟨A3, hA3⟩ := named (Code.uvar xs)
  obtain ⟨A4, hA4⟩ := named [UInt8.ofNat k]
  have P1 := Lib.hid (fun u => putuint_any c (by omega) u)
  have P2 := Lib.hid (fun u => putfield_list D (by omega) u)
  have P3 := Lib.hid (fun u => putuint_any xs (by omega) u)
  have PV := Lib.hid (fun u => putfield_any xv (by unfold reachBytes; omega) u)
  obtain ⟨A5, hA5⟩ := named (Code.uvar xv.size ++ xv.toList)
  have PV : Hid (∀ u, Calls Try.prog 43 #[.string xv] u fun e w' => e = .returned (.string ⟨A5.toArray⟩) ∧ Below u.heap.size u w') := Lib.hid (by rw [hA5.out, ByteArray.toList_eq]; exact PV.out)
  rw [← hA1.out] at P1 hE
  rw [← hA2.out] at P2 hE
  rw [← hA3.out] at P3 hE
  have T17 : ∀ (u : World) (g : Nat), u.cell? ⟨g, 0, none⟩ = some (.int .u8 (k : Int)) → (convert 51 9 (.slice (some ⟨g, 0, none⟩) 1 1)).run Try.prog u = .ok (.string ⟨A4.toArray⟩) u := by rw [hA4.out]; exact fun u g => text_of k (by omega) u g
  rw [show (k : Int).toNat = k from rfl, ← hA4.out] at hE
  rw [← hA5.out] at hV1
  have a1 : A1.length ≤ 10 := by rw [hA1.out]; exact Code.uvar_ten (by omega)
  have a2 : A2.length ≤ 530 := by rw [hA2.out, List.length_append]; have := Code.uvar_ten (n := D.length) (by omega); omega
  have a3 : A3.length ≤ 10 := by rw [hA3.out]; exact Code.uvar_ten (by omega)
  have a4 : A4.length = 1 := by rw [hA4.out]; rfl
  have a5 : A5.length ≤ 2058 := by rw [hA5.out, List.length_append, toL_len]; have := Code.uvar_ten (n := xv.size) (by omega); omega
  have z1 : ¬ 9223372036854775807 < A1.length + A2.length := by omega
  have z2 : ¬ 9223372036854775807 < A1.length + A2.length + A3.length := by omega
  have z3 : ¬ 9223372036854775807 < A1.length + A2.length + A3.length + A4.length := by omega
  have z4 : ¬ 9223372036854775807 < A1.length + A2.length + A3.length + A4.length + A5.length := by omega
  have w1 : IntKind.u64.wrap (c : Int) = (c : Int) := wrap_u64_nat (by omega)
  have w2 : IntKind.u8.wrap (k : Int) = (k : Int) := by rw [IntKind.wrap_u8]; omega
  clear hD hA1 hA2 hA3 hA4 hA5 hkl hvl hs1 hs2 hx
  replace a4 := Lib.hid a4
  replace hDl := Lib.hid hDl
  obtain ⟨⟨p0, p1, p2, p3⟩, pf⟩ := hp1.cells
  obtain ⟨⟨x0, x1, x2, x3⟩, _⟩ := R0.cells
  simp only at x0 x1 x2 x3
  have pf0 := pf 0
  have pf1 := pf 1
  have pf2 := pf 2
  have pf3 := pf 3
  clear pf
  go_enter Try.func40, Try.ntmps40
  go_upto_if 9 with fail
  go_cut [6] from 9 to 14 (fun s wc => s = .int .i64 (c : Int) ∧ Below (w.alloc (.cells #[.string xk, .int .u64 (xs : Int), .int .i64 (k : Int), .string xv] 33)).heap.size (w.alloc (.cells #[.string xk, .int .u64 (xs : Int), .int .i64 (k : Int), .string xv] 33)) wc)
  case first =>
    cases f with
    | true =>
      have e0 := hcf.out rfl
      subst e0
      go_wp2_with fail
      go_meet
      exact ⟨rfl, Below.refl _ _⟩
    | false =>
      have e0 := hcn.out rfl
      subst e0
      go_wp2_with (go_at_call 41; ((with_reducible refine (CM.out _).mono ?_); rintro e u1 ⟨rfl, hb1⟩))
      go_meet
      exact ⟨rfl, hb1⟩
  case rest =>
    obtain ⟨rfl, hcut⟩ := hcut
    have X1 := R0.below hcut
    have Q1 := hp1.below hcut
    have hne : w.heap.size ≠ b := by omega
    have BV : Hid (But b w ((((wc.setCell ⟨b, 0, none⟩ (.string xk)).setCell ⟨b, 1, none⟩ (.int .u64 (xs : Int))).setCell ⟨b, 2, none⟩ (.int .i64 (k : Int))).setCell ⟨b, 3, none⟩ (.string xv))) := Lib.hid ((But.of_below (W0.out.trans (hcut.mono W0.out.size)) (Nat.le_refl _)).trans (but_put4 b wc ⟨xk, xs, (k : Int), xv⟩))
    have RV := Lib.hid (rowAt_put Q1 ⟨xk, xs, (k : Int), xv⟩)
    have XV := Lib.hid (X1.but (but_put4 b wc ⟨xk, xs, (k : Int), xv⟩) hne)
    simp only at RV XV
    obtain ⟨⟨p0, p1, p2, p3⟩, pf⟩ := Q1.cells
    obtain ⟨⟨x0, x1, x2, x3⟩, _⟩ := X1.cells
    simp only at x0 x1 x2 x3
    have pf0 := pf 0
    have pf1 := pf 1
    have pf2 := pf 2
    have pf3 := pf 3
    clear pf Q1 X1 hcut hp1 hp hcf hcn CM
    go_upto_region 5 with fail
    generalize (((wc.setCell ⟨b, 0, none⟩ (.string xk)).setCell ⟨b, 1, none⟩ (.int .u64 (xs : Int))).setCell ⟨b, 2, none⟩ (.int .i64 (k : Int))).setCell ⟨b, 3, none⟩ (.string xv) = V at *
    clear p0 p1 p2 p3 x0 x1 x2 x3 pf0 pf1 pf2 pf3 W0
    have B0 : Hid (Below V.heap.size V V.drew) := Lib.hid (Below.refl _ V).drew
    have SX : Hid (∀ u, Below V.heap.size V u → (u.cell? ⟨w.heap.size, 0, none⟩ = some (.string xk) ∧ u.cell? ⟨w.heap.size, 1, none⟩ = some (.int .u64 (xs : Int)) ∧ u.cell? ⟨w.heap.size, 2, none⟩ = some (.int .i64 (k : Int))) ∧ Hid (Below V.heap.size V u)) := Lib.hid (fun u hu => by
      obtain ⟨⟨y0, y1, y2, _⟩, _⟩ := (XV.out.below hu).cells
      exact ⟨⟨y0, y1, y2⟩, Lib.hid hu⟩)
    go_cut [7] from 16 to 34 (fun s wc => s = .string (⟨A1.toArray⟩ ++ ⟨A2.toArray⟩ ++ ⟨A3.toArray⟩ ++ ⟨A4.toArray⟩) ∧ Below V.heap.size V wc)
    case first =>
      refine wp_region_held_drew (S := (fun v => (v.cell? ⟨w.heap.size, 0, none⟩ = some (.string xk) ∧ v.cell? ⟨w.heap.size, 1, none⟩ = some (.int .u64 (xs : Int)) ∧ v.cell? ⟨w.heap.size, 2, none⟩ = some (.int .i64 (k : Int))) ∧ Hid (Below V.heap.size V v))) (by kernel_rfl) (SX.out _ B0.out) (fun hHeld => ?_)
      refine held_take (i := 0) (v := ?_) rfl (by kernel_rfl) (by kernel_rfl) (by kernel_rfl) (fun _ _ _ h => h) (by rfl) (fun w hSw => ?_) (by assumption) ?_; rotate_left 1; focus (((try dsimp only at hSw); first | (go_simp; done) | (go_simp; with_reducible rfl)))
      try simp only [Act.put, List.setIfInBounds_toArray, List.set_cons_zero, List.set_cons_succ]
      refine held_take (i := 1) (v := ?_) rfl (by kernel_rfl) (by kernel_rfl) (by kernel_rfl) (fun _ _ _ h => h) (by rfl) (fun w hSw => ?_) (by assumption) ?_; rotate_left 1; focus (((try dsimp only at hSw); first | (go_simp; done) | (go_simp; with_reducible rfl)))
      try simp only [Act.put, List.setIfInBounds_toArray, List.set_cons_zero, List.set_cons_succ]
      refine held_take (i := 3) (v := ?_) rfl (by kernel_rfl) (by kernel_rfl) (by kernel_rfl) (fun _ _ _ h => h) (by rfl) (fun w hSw => ?_) (by assumption) ?_; rotate_left 1; focus (((try dsimp only at hSw); first | (go_simp; done) | (go_simp; with_reducible rfl)))
      try simp only [Act.put, List.setIfInBounds_toArray, List.set_cons_zero, List.set_cons_succ]
      refine held_take (i := 4) (v := ?_) rfl (by kernel_rfl) (by kernel_rfl) (by kernel_rfl) (fun _ _ _ h => h) (by rfl) (fun w hSw => ?_) (by assumption) ?_; rotate_left 1; focus (((try dsimp only at hSw); first | (go_simp; done) | (go_simp; with_reducible rfl)))
      try simp only [Act.put, List.setIfInBounds_toArray, List.set_cons_zero, List.set_cons_succ]
      refine held_take (i := 5) (v := ?_) rfl (by kernel_rfl) (by kernel_rfl) (by kernel_rfl) (fun _ _ _ h => h) (by rfl) (fun w hSw => ?_) (by assumption) ?_; rotate_left 1; focus (((try dsimp only at hSw); first | (go_simp; done) | (go_simp; with_reducible rfl)))
      try simp only [Act.put, List.setIfInBounds_toArray, List.set_cons_zero, List.set_cons_succ]
      refine held_take (i := 6) (v := ?_) rfl (by kernel_rfl) (by kernel_rfl) (by kernel_rfl) (fun _ _ _ h => h) (by rfl) (fun w hSw => ?_) (by assumption) ?_; rotate_left 1; focus (((try dsimp only at hSw); first | (go_simp; done) | (go_simp; with_reducible rfl)))
      try simp only [Act.put, List.setIfInBounds_toArray, List.set_cons_zero, List.set_cons_succ]
      refine held_take (i := 9) (v := ?_) rfl (by kernel_rfl) (by kernel_rfl) (by kernel_rfl) (fun _ _ _ h => h) (by rfl) (fun w hSw => ?_) (by assumption) ?_; rotate_left 1; focus (((try dsimp only at hSw); first | (go_simp; done) | (go_simp; with_reducible rfl)))
      try simp only [Act.put, List.setIfInBounds_toArray, List.set_cons_zero, List.set_cons_succ]
      refine held_take (i := 10) (v := ?_) rfl (by kernel_rfl) (by kernel_rfl) (by kernel_rfl) (fun _ _ _ h => h) (by rfl) (fun w hSw => ?_) (by assumption) ?_; rotate_left 1; focus (((try dsimp only at hSw); first | (go_simp; done) | (go_simp; with_reducible rfl)))
      try simp only [Act.put, List.setIfInBounds_toArray, List.set_cons_zero, List.set_cons_succ]
      refine held_take (i := 13) (v := ?_) rfl (by kernel_rfl) (by kernel_rfl) (by kernel_rfl) (fun _ _ _ h => h) (by rfl) (fun w hSw => ?_) (by assumption) ?_; rotate_left 1; focus (((try dsimp only at hSw); first | (go_simp; done) | (go_simp; with_reducible rfl)))
      try simp only [Act.put, List.setIfInBounds_toArray, List.set_cons_zero, List.set_cons_succ]
      refine held_take (i := 14) (v := ?_) rfl (by kernel_rfl) (by kernel_rfl) (by kernel_rfl) (fun _ _ _ h => h) (by rfl) (fun w hSw => ?_) (by assumption) ?_; rotate_left 1; focus (((try dsimp only at hSw); first | (go_simp; done) | (go_simp; with_reducible rfl)))
      try simp only [Act.put, List.setIfInBounds_toArray, List.set_cons_zero, List.set_cons_succ]
      refine held_take (i := 15) (v := ?_) rfl (by kernel_rfl) (by kernel_rfl) (by kernel_rfl) (fun _ _ _ h => h) (by rfl) (fun w hSw => ?_) (by assumption) ?_; rotate_left 1; focus (((try dsimp only at hSw); first | (go_simp; done) | (go_simp; with_reducible rfl)))
      try simp only [Act.put, List.setIfInBounds_toArray, List.set_cons_zero, List.set_cons_succ]
      refine held_two (i := 2) (j := 16) (by kernel_rfl) rfl rfl (by rfl) (by rfl) (fun K hK => ?_) (fun K hK => ?_)
      · go_simp
        (go_at_call 42; ((with_reducible refine (P1.out _).mono ?_); rintro e u2 ⟨rfl, hb2⟩))
        have B2 := Lib.hid (below_of (w := V) B0.out hb2)
        clear hb2
        refine hK.out _ _ (SX.out _ B2.out) (fun hHeld => ?_)
        try simp only [Act.put, List.setIfInBounds_toArray, List.set_cons_zero, List.set_cons_succ]
        refine held_two (i := 7) (j := 16) (by kernel_rfl) rfl rfl (by rfl) (by rfl) (fun K hK => ?_) (fun K hK => ?_)
        · go_simp
          (go_at_call 43; ((with_reducible refine (P2.out _).mono ?_); rintro e u7 ⟨rfl, hb7⟩))
          have B7 := Lib.hid (below_of (w := V) B2.out hb7)
          clear hb7
          refine hK.out _ _ (SX.out _ B7.out) (fun hHeld => ?_)
          try simp only [Act.put, List.setIfInBounds_toArray, List.set_cons_zero, List.set_cons_succ]
          refine held_take (i := 8) (v := ?_) rfl (by kernel_rfl) (by kernel_rfl) (by kernel_rfl) (fun _ _ _ h => h) (by rfl) (fun w hSw => ?_) (by assumption) ?_; rotate_left 1; focus (((try dsimp only at hSw); first | (go_simp; done) | (go_simp; with_reducible rfl)))
          try simp only [Act.put, List.setIfInBounds_toArray, List.set_cons_zero, List.set_cons_succ]
          refine held_two (i := 11) (j := 16) (by kernel_rfl) rfl rfl (by rfl) (by rfl) (fun K hK => ?_) (fun K hK => ?_)
          · go_simp
            (go_at_call 42; ((with_reducible refine (P3.out _).mono ?_); rintro e u11 ⟨rfl, hb11⟩))
            have B11 := Lib.hid (below_of (w := V) B7.out hb11)
            clear hb11
            refine hK.out _ _ (SX.out _ B11.out) (fun hHeld => ?_)
            try simp only [Act.put, List.setIfInBounds_toArray, List.set_cons_zero, List.set_cons_succ]
            refine held_take (i := 12) (v := ?_) rfl (by kernel_rfl) (by kernel_rfl) (by kernel_rfl) (fun _ _ _ h => h) (by rfl) (fun w hSw => ?_) (by assumption) ?_; rotate_left 1; focus (((try dsimp only at hSw); first | (go_simp; done) | (go_simp; with_reducible rfl)))
            try simp only [Act.put, List.setIfInBounds_toArray, List.set_cons_zero, List.set_cons_succ]
            refine held_call (i := 16) (by kernel_rfl) rfl (by rfl) (fun K hK => ?_)
            go_simp
            have B16' := Lib.hid (below_of (w := V) B11.out (below_alloc u11 (.cells #[.int .u8 (k : Int)] 5)))
            have c17' : (u11.alloc (.cells #[.int .u8 (k : Int)] 5)).cell? ⟨u11.heap.size, 0, none⟩ = some (.int .u8 (k : Int)) := by rw [World.cell?_alloc_new]; rfl
            obtain ⟨u16, hu16⟩ := named (u11.alloc (.cells #[.int .u8 (k : Int)] 5))
            rw [← hu16.out] at B16' c17'
            have B16 := B16'
            have c17 := c17'
            clear B16' c17'
            refine hK.out _ _ (by rw [← hu16.out]; exact SX.out _ B16.out) (fun hHeld => ?_)
            rw [← hu16.out] at hHeld ⊢
            try simp only [Act.put, List.setIfInBounds_toArray, List.set_cons_zero, List.set_cons_succ]
            refine held_call (i := 17) (by kernel_rfl) rfl (by rfl) (fun K hK => ?_)
            go_simp
            clear c17
            refine hK.out _ _ hHeld (fun hHeld => ?_)
            try simp only [Act.put, List.setIfInBounds_toArray, List.set_cons_zero, List.set_cons_succ]
            refine held_take (i := 18) (v := ?_) rfl (by kernel_rfl) (by kernel_rfl) (by kernel_rfl) (fun _ _ _ h => h) (by rfl) (fun w hSw => ?_) (by assumption) ?_; rotate_left 1; focus (((try dsimp only at hSw); first | (go_simp; done) | (go_simp; with_reducible rfl)))
            try simp only [Act.put, List.setIfInBounds_toArray, List.set_cons_zero, List.set_cons_succ]
            refine held_take (i := 19) (v := ?_) rfl (by kernel_rfl) (by kernel_rfl) (by kernel_rfl) (fun _ _ _ h => h) (by rfl) (fun w hSw => ?_) (by assumption) ?_; rotate_left 1; focus (((try dsimp only at hSw); first | (go_simp; done) | (go_simp; with_reducible rfl)))
            try simp only [Act.put, List.setIfInBounds_toArray, List.set_cons_zero, List.set_cons_succ]
            refine wpAnyH_done (by kernel_rfl) ?_ _
            go_wp2_with fail
            go_meet
            exact ⟨rfl, hHeld.2.out⟩
          · go_simp
            have B16' := Lib.hid (below_of (w := V) B7.out (below_alloc u7 (.cells #[.int .u8 (k : Int)] 5)))
            have c17' : (u7.alloc (.cells #[.int .u8 (k : Int)] 5)).cell? ⟨u7.heap.size, 0, none⟩ = some (.int .u8 (k : Int)) := by rw [World.cell?_alloc_new]; rfl
            obtain ⟨u16, hu16⟩ := named (u7.alloc (.cells #[.int .u8 (k : Int)] 5))
            rw [← hu16.out] at B16' c17'
            have B16 := B16'
            have c17 := c17'
            clear B16' c17'
            refine hK.out _ _ (by rw [← hu16.out]; exact SX.out _ B16.out) (fun hHeld => ?_)
            rw [← hu16.out] at hHeld ⊢
            try simp only [Act.put, List.setIfInBounds_toArray, List.set_cons_zero, List.set_cons_succ]
            refine held_two (i := 11) (j := 17) (by kernel_rfl) rfl rfl (by rfl) (by rfl) (fun K hK => ?_) (fun K hK => ?_)
            · go_simp
              (go_at_call 42; ((with_reducible refine (P3.out _).mono ?_); rintro e u11 ⟨rfl, hb11⟩))
              have B11 := Lib.hid (below_of (w := V) B16.out hb11)
              have c17 := cell_keep hb11 c17
              clear hb11
              refine hK.out _ _ (SX.out _ B11.out) (fun hHeld => ?_)
              try simp only [Act.put, List.setIfInBounds_toArray, List.set_cons_zero, List.set_cons_succ]
              refine held_take (i := 12) (v := ?_) rfl (by kernel_rfl) (by kernel_rfl) (by kernel_rfl) (fun _ _ _ h => h) (by rfl) (fun w hSw => ?_) (by assumption) ?_; rotate_left 1; focus (((try dsimp only at hSw); first | (go_simp; done) | (go_simp; with_reducible rfl)))
              try simp only [Act.put, List.setIfInBounds_toArray, List.set_cons_zero, List.set_cons_succ]
              refine held_call (i := 17) (by kernel_rfl) rfl (by rfl) (fun K hK => ?_)
              go_simp
              clear c17
              refine hK.out _ _ hHeld (fun hHeld => ?_)
              try simp only [Act.put, List.setIfInBounds_toArray, List.set_cons_zero, List.set_cons_succ]
              refine held_take (i := 18) (v := ?_) rfl (by kernel_rfl) (by kernel_rfl) (by kernel_rfl) (fun _ _ _ h => h) (by rfl) (fun w hSw => ?_) (by assumption) ?_; rotate_left 1; focus (((try dsimp only at hSw); first | (go_simp; done) | (go_simp; with_reducible rfl)))
              try simp only [Act.put, List.setIfInBounds_toArray, List.set_cons_zero, List.set_cons_succ]
              refine held_take (i := 19) (v := ?_) rfl (by kernel_rfl) (by kernel_rfl) (by kernel_rfl) (fun _ _ _ h => h) (by rfl) (fun w hSw => ?_) (by assumption) ?_; rotate_left 1; focus (((try dsimp only at hSw); first | (go_simp; done) | (go_simp; with_reducible rfl)))
              try simp only [Act.put, List.setIfInBounds_toArray, List.set_cons_zero, List.set_cons_succ]
              refine wpAnyH_done (by kernel_rfl) ?_ _
              go_wp2_with fail
              go_meet
              exact ⟨rfl, hHeld.2.out⟩
            · go_simp
              clear c17
              refine hK.out _ _ hHeld (fun hHeld => ?_)
              try simp only [Act.put, List.setIfInBounds_toArray, List.set_cons_zero, List.set_cons_succ]
              refine held_call (i := 11) (by kernel_rfl) rfl (by rfl) (fun K hK => ?_)
              go_simp
              (go_at_call 42; ((with_reducible refine (P3.out _).mono ?_); rintro e u11 ⟨rfl, hb11⟩))
              have B11 := Lib.hid (below_of (w := V) B16.out hb11)
              clear hb11
              refine hK.out _ _ (SX.out _ B11.out) (fun hHeld => ?_)
              try simp only [Act.put, List.setIfInBounds_toArray, List.set_cons_zero, List.set_cons_succ]
              refine held_take (i := 12) (v := ?_) rfl (by kernel_rfl) (by kernel_rfl) (by kernel_rfl) (fun _ _ _ h => h) (by rfl) (fun w hSw => ?_) (by assumption) ?_; rotate_left 1; focus (((try dsimp only at hSw); first | (go_simp; done) | (go_simp; with_reducible rfl)))
              try simp only [Act.put, List.setIfInBounds_toArray, List.set_cons_zero, List.set_cons_succ]
              refine held_take (i := 18) (v := ?_) rfl (by kernel_rfl) (by kernel_rfl) (by kernel_rfl) (fun _ _ _ h => h) (by rfl) (fun w hSw => ?_) (by assumption) ?_; rotate_left 1; focus (((try dsimp only at hSw); first | (go_simp; done) | (go_simp; with_reducible rfl)))
              try simp only [Act.put, List.setIfInBounds_toArray, List.set_cons_zero, List.set_cons_succ]
              refine held_take (i := 19) (v := ?_) rfl (by kernel_rfl) (by kernel_rfl) (by kernel_rfl) (fun _ _ _ h => h) (by rfl) (fun w hSw => ?_) (by assumption) ?_; rotate_left 1; focus (((try dsimp only at hSw); first | (go_simp; done) | (go_simp; with_reducible rfl)))
              try simp only [Act.put, List.setIfInBounds_toArray, List.set_cons_zero, List.set_cons_succ]
              refine wpAnyH_done (by kernel_rfl) ?_ _
              go_wp2_with fail
              go_meet
              exact ⟨rfl, hHeld.2.out⟩
        · go_simp
          have B16' := Lib.hid (below_of (w := V) B2.out (below_alloc u2 (.cells #[.int .u8 (k : Int)] 5)))
          have c17' : (u2.alloc (.cells #[.int .u8 (k : Int)] 5)).cell? ⟨u2.heap.size, 0, none⟩ = some (.int .u8 (k : Int)) := by rw [World.cell?_alloc_new]; rfl
          obtain ⟨u16, hu16⟩ := named (u2.alloc (.cells #[.int .u8 (k : Int)] 5))
          rw [← hu16.out] at B16' c17'
          have B16 := B16'
          have c17 := c17'
          clear B16' c17'
          refine hK.out _ _ (by rw [← hu16.out]; exact SX.out _ B16.out) (fun hHeld => ?_)
          rw [← hu16.out] at hHeld ⊢
          try simp only [Act.put, List.setIfInBounds_toArray, List.set_cons_zero, List.set_cons_succ]
          refine held_two (i := 7) (j := 17) (by kernel_rfl) rfl rfl (by rfl) (by rfl) (fun K hK => ?_) (fun K hK => ?_)
          · go_simp
            (go_at_call 43; ((with_reducible refine (P2.out _).mono ?_); rintro e u7 ⟨rfl, hb7⟩))
            have B7 := Lib.hid (below_of (w := V) B16.out hb7)
            have c17 := cell_keep hb7 c17
            clear hb7
            refine hK.out _ _ (SX.out _ B7.out) (fun hHeld => ?_)
            try simp only [Act.put, List.setIfInBounds_toArray, List.set_cons_zero, List.set_cons_succ]
            refine held_take (i := 8) (v := ?_) rfl (by kernel_rfl) (by kernel_rfl) (by kernel_rfl) (fun _ _ _ h => h) (by rfl) (fun w hSw => ?_) (by assumption) ?_; rotate_left 1; focus (((try dsimp only at hSw); first | (go_simp; done) | (go_simp; with_reducible rfl)))
            try simp only [Act.put, List.setIfInBounds_toArray, List.set_cons_zero, List.set_cons_succ]
            refine held_two (i := 11) (j := 17) (by kernel_rfl) rfl rfl (by rfl) (by rfl) (fun K hK => ?_) (fun K hK => ?_)
            · go_simp
              (go_at_call 42; ((with_reducible refine (P3.out _).mono ?_); rintro e u11 ⟨rfl, hb11⟩))
              have B11 := Lib.hid (below_of (w := V) B7.out hb11)
              have c17 := cell_keep hb11 c17
              clear hb11
              refine hK.out _ _ (SX.out _ B11.out) (fun hHeld => ?_)
              try simp only [Act.put, List.setIfInBounds_toArray, List.set_cons_zero, List.set_cons_succ]
              refine held_take (i := 12) (v := ?_) rfl (by kernel_rfl) (by kernel_rfl) (by kernel_rfl) (fun _ _ _ h => h) (by rfl) (fun w hSw => ?_) (by assumption) ?_; rotate_left 1; focus (((try dsimp only at hSw); first | (go_simp; done) | (go_simp; with_reducible rfl)))
              try simp only [Act.put, List.setIfInBounds_toArray, List.set_cons_zero, List.set_cons_succ]
              refine held_call (i := 17) (by kernel_rfl) rfl (by rfl) (fun K hK => ?_)
              go_simp
              clear c17
              refine hK.out _ _ hHeld (fun hHeld => ?_)
              try simp only [Act.put, List.setIfInBounds_toArray, List.set_cons_zero, List.set_cons_succ]
              refine held_take (i := 18) (v := ?_) rfl (by kernel_rfl) (by kernel_rfl) (by kernel_rfl) (fun _ _ _ h => h) (by rfl) (fun w hSw => ?_) (by assumption) ?_; rotate_left 1; focus (((try dsimp only at hSw); first | (go_simp; done) | (go_simp; with_reducible rfl)))
              try simp only [Act.put, List.setIfInBounds_toArray, List.set_cons_zero, List.set_cons_succ]
              refine held_take (i := 19) (v := ?_) rfl (by kernel_rfl) (by kernel_rfl) (by kernel_rfl) (fun _ _ _ h => h) (by rfl) (fun w hSw => ?_) (by assumption) ?_; rotate_left 1; focus (((try dsimp only at hSw); first | (go_simp; done) | (go_simp; with_reducible rfl)))
              try simp only [Act.put, List.setIfInBounds_toArray, List.set_cons_zero, List.set_cons_succ]
              refine wpAnyH_done (by kernel_rfl) ?_ _
              go_wp2_with fail
              go_meet
              exact ⟨rfl, hHeld.2.out⟩
            · go_simp
              clear c17
              refine hK.out _ _ hHeld (fun hHeld => ?_)
              try simp only [Act.put, List.setIfInBounds_toArray, List.set_cons_zero, List.set_cons_succ]
              refine held_call (i := 11) (by kernel_rfl) rfl (by rfl) (fun K hK => ?_)
              go_simp
              (go_at_call 42; ((with_reducible refine (P3.out _).mono ?_); rintro e u11 ⟨rfl, hb11⟩))
              have B11 := Lib.hid (below_of (w := V) B7.out hb11)
              clear hb11
              refine hK.out _ _ (SX.out _ B11.out) (fun hHeld => ?_)
              try simp only [Act.put, List.setIfInBounds_toArray, List.set_cons_zero, List.set_cons_succ]
              refine held_take (i := 12) (v := ?_) rfl (by kernel_rfl) (by kernel_rfl) (by kernel_rfl) (fun _ _ _ h => h) (by rfl) (fun w hSw => ?_) (by assumption) ?_; rotate_left 1; focus (((try dsimp only at hSw); first | (go_simp; done) | (go_simp; with_reducible rfl)))
              try simp only [Act.put, List.setIfInBounds_toArray, List.set_cons_zero, List.set_cons_succ]
              refine held_take (i := 18) (v := ?_) rfl (by kernel_rfl) (by kernel_rfl) (by kernel_rfl) (fun _ _ _ h => h) (by rfl) (fun w hSw => ?_) (by assumption) ?_; rotate_left 1; focus (((try dsimp only at hSw); first | (go_simp; done) | (go_simp; with_reducible rfl)))
              try simp only [Act.put, List.setIfInBounds_toArray, List.set_cons_zero, List.set_cons_succ]
              refine held_take (i := 19) (v := ?_) rfl (by kernel_rfl) (by kernel_rfl) (by kernel_rfl) (fun _ _ _ h => h) (by rfl) (fun w hSw => ?_) (by assumption) ?_; rotate_left 1; focus (((try dsimp only at hSw); first | (go_simp; done) | (go_simp; with_reducible rfl)))
              try simp only [Act.put, List.setIfInBounds_toArray, List.set_cons_zero, List.set_cons_succ]
              refine wpAnyH_done (by kernel_rfl) ?_ _
              go_wp2_with fail
              go_meet
              exact ⟨rfl, hHeld.2.out⟩
          · go_simp
            clear c17
            refine hK.out _ _ hHeld (fun hHeld => ?_)
            try simp only [Act.put, List.setIfInBounds_toArray, List.set_cons_zero, List.set_cons_succ]
            refine held_call (i := 7) (by kernel_rfl) rfl (by rfl) (fun K hK => ?_)
            go_simp
            (go_at_call 43; ((with_reducible refine (P2.out _).mono ?_); rintro e u7 ⟨rfl, hb7⟩))
            have B7 := Lib.hid (below_of (w := V) B16.out hb7)
            clear hb7
            refine hK.out _ _ (SX.out _ B7.out) (fun hHeld => ?_)
            try simp only [Act.put, List.setIfInBounds_toArray, List.set_cons_zero, List.set_cons_succ]
            refine held_take (i := 8) (v := ?_) rfl (by kernel_rfl) (by kernel_rfl) (by kernel_rfl) (fun _ _ _ h => h) (by rfl) (fun w hSw => ?_) (by assumption) ?_; rotate_left 1; focus (((try dsimp only at hSw); first | (go_simp; done) | (go_simp; with_reducible rfl)))
            try simp only [Act.put, List.setIfInBounds_toArray, List.set_cons_zero, List.set_cons_succ]
            refine held_call (i := 11) (by kernel_rfl) rfl (by rfl) (fun K hK => ?_)
            go_simp
            (go_at_call 42; ((with_reducible refine (P3.out _).mono ?_); rintro e u11 ⟨rfl, hb11⟩))
            have B11 := Lib.hid (below_of (w := V) B7.out hb11)
            clear hb11
            refine hK.out _ _ (SX.out _ B11.out) (fun hHeld => ?_)
            try simp only [Act.put, List.setIfInBounds_toArray, List.set_cons_zero, List.set_cons_succ]
            refine held_take (i := 12) (v := ?_) rfl (by kernel_rfl) (by kernel_rfl) (by kernel_rfl) (fun _ _ _ h => h) (by rfl) (fun w hSw => ?_) (by assumption) ?_; rotate_left 1; focus (((try dsimp only at hSw); first | (go_simp; done) | (go_simp; with_reducible rfl)))
            try simp only [Act.put, List.setIfInBounds_toArray, List.set_cons_zero, List.set_cons_succ]
            refine held_take (i := 18) (v := ?_) rfl (by kernel_rfl) (by kernel_rfl) (by kernel_rfl) (fun _ _ _ h => h) (by rfl) (fun w hSw => ?_) (by assumption) ?_; rotate_left 1; focus (((try dsimp only at hSw); first | (go_simp; done) | (go_simp; with_reducible rfl)))
            try simp only [Act.put, List.setIfInBounds_toArray, List.set_cons_zero, List.set_cons_succ]
            refine held_take (i := 19) (v := ?_) rfl (by kernel_rfl) (by kernel_rfl) (by kernel_rfl) (fun _ _ _ h => h) (by rfl) (fun w hSw => ?_) (by assumption) ?_; rotate_left 1; focus (((try dsimp only at hSw); first | (go_simp; done) | (go_simp; with_reducible rfl)))
            try simp only [Act.put, List.setIfInBounds_toArray, List.set_cons_zero, List.set_cons_succ]
            refine wpAnyH_done (by kernel_rfl) ?_ _
            go_wp2_with fail
            go_meet
            exact ⟨rfl, hHeld.2.out⟩
      · go_simp
        have B16' := Lib.hid (below_alloc V (.cells #[.int .u8 (k : Int)] 5)).drew
        have c17' : (V.alloc (.cells #[.int .u8 (k : Int)] 5)).drew.cell? ⟨V.heap.size, 0, none⟩ = some (.int .u8 (k : Int)) := by show (V.alloc (.cells #[.int .u8 (k : Int)] 5)).cell? _ = _; rw [World.cell?_alloc_new]; rfl
        obtain ⟨u16, hu16⟩ := named (V.alloc (.cells #[.int .u8 (k : Int)] 5)).drew
        rw [← hu16.out] at B16' c17'
        have B16 := B16'
        have c17 := c17'
        clear B16' c17'
        refine hK.out _ _ (by rw [← hu16.out]; exact SX.out _ B16.out) (fun hHeld => ?_)
        rw [← hu16.out] at hHeld ⊢
        try simp only [Act.put, List.setIfInBounds_toArray, List.set_cons_zero, List.set_cons_succ]
        refine held_two (i := 2) (j := 17) (by kernel_rfl) rfl rfl (by rfl) (by rfl) (fun K hK => ?_) (fun K hK => ?_)
        · go_simp
          (go_at_call 42; ((with_reducible refine (P1.out _).mono ?_); rintro e u2 ⟨rfl, hb2⟩))
          have B2 := Lib.hid (below_of (w := V) B16.out hb2)
          have c17 := cell_keep hb2 c17
          clear hb2
          refine hK.out _ _ (SX.out _ B2.out) (fun hHeld => ?_)
          try simp only [Act.put, List.setIfInBounds_toArray, List.set_cons_zero, List.set_cons_succ]
          refine held_two (i := 7) (j := 17) (by kernel_rfl) rfl rfl (by rfl) (by rfl) (fun K hK => ?_) (fun K hK => ?_)
          · go_simp
            (go_at_call 43; ((with_reducible refine (P2.out _).mono ?_); rintro e u7 ⟨rfl, hb7⟩))
            have B7 := Lib.hid (below_of (w := V) B2.out hb7)
            have c17 := cell_keep hb7 c17
            clear hb7
            refine hK.out _ _ (SX.out _ B7.out) (fun hHeld => ?_)
            try simp only [Act.put, List.setIfInBounds_toArray, List.set_cons_zero, List.set_cons_succ]
            refine held_take (i := 8) (v := ?_) rfl (by kernel_rfl) (by kernel_rfl) (by kernel_rfl) (fun _ _ _ h => h) (by rfl) (fun w hSw => ?_) (by assumption) ?_; rotate_left 1; focus (((try dsimp only at hSw); first | (go_simp; done) | (go_simp; with_reducible rfl)))
            try simp only [Act.put, List.setIfInBounds_toArray, List.set_cons_zero, List.set_cons_succ]
            refine held_two (i := 11) (j := 17) (by kernel_rfl) rfl rfl (by rfl) (by rfl) (fun K hK => ?_) (fun K hK => ?_)
            · go_simp
              (go_at_call 42; ((with_reducible refine (P3.out _).mono ?_); rintro e u11 ⟨rfl, hb11⟩))
              have B11 := Lib.hid (below_of (w := V) B7.out hb11)
              have c17 := cell_keep hb11 c17
              clear hb11
              refine hK.out _ _ (SX.out _ B11.out) (fun hHeld => ?_)
              try simp only [Act.put, List.setIfInBounds_toArray, List.set_cons_zero, List.set_cons_succ]
              refine held_take (i := 12) (v := ?_) rfl (by kernel_rfl) (by kernel_rfl) (by kernel_rfl) (fun _ _ _ h => h) (by rfl) (fun w hSw => ?_) (by assumption) ?_; rotate_left 1; focus (((try dsimp only at hSw); first | (go_simp; done) | (go_simp; with_reducible rfl)))
              try simp only [Act.put, List.setIfInBounds_toArray, List.set_cons_zero, List.set_cons_succ]
              refine held_call (i := 17) (by kernel_rfl) rfl (by rfl) (fun K hK => ?_)
              go_simp
              clear c17
              refine hK.out _ _ hHeld (fun hHeld => ?_)
              try simp only [Act.put, List.setIfInBounds_toArray, List.set_cons_zero, List.set_cons_succ]
              refine held_take (i := 18) (v := ?_) rfl (by kernel_rfl) (by kernel_rfl) (by kernel_rfl) (fun _ _ _ h => h) (by rfl) (fun w hSw => ?_) (by assumption) ?_; rotate_left 1; focus (((try dsimp only at hSw); first | (go_simp; done) | (go_simp; with_reducible rfl)))
              try simp only [Act.put, List.setIfInBounds_toArray, List.set_cons_zero, List.set_cons_succ]
              refine held_take (i := 19) (v := ?_) rfl (by kernel_rfl) (by kernel_rfl) (by kernel_rfl) (fun _ _ _ h => h) (by rfl) (fun w hSw => ?_) (by assumption) ?_; rotate_left 1; focus (((try dsimp only at hSw); first | (go_simp; done) | (go_simp; with_reducible rfl)))
              try simp only [Act.put, List.setIfInBounds_toArray, List.set_cons_zero, List.set_cons_succ]
              refine wpAnyH_done (by kernel_rfl) ?_ _
              go_wp2_with fail
              go_meet
              exact ⟨rfl, hHeld.2.out⟩
            · go_simp
              clear c17
              refine hK.out _ _ hHeld (fun hHeld => ?_)
              try simp only [Act.put, List.setIfInBounds_toArray, List.set_cons_zero, List.set_cons_succ]
              refine held_call (i := 11) (by kernel_rfl) rfl (by rfl) (fun K hK => ?_)
              go_simp
              (go_at_call 42; ((with_reducible refine (P3.out _).mono ?_); rintro e u11 ⟨rfl, hb11⟩))
              have B11 := Lib.hid (below_of (w := V) B7.out hb11)
              clear hb11
              refine hK.out _ _ (SX.out _ B11.out) (fun hHeld => ?_)
              try simp only [Act.put, List.setIfInBounds_toArray, List.set_cons_zero, List.set_cons_succ]
              refine held_take (i := 12) (v := ?_) rfl (by kernel_rfl) (by kernel_rfl) (by kernel_rfl) (fun _ _ _ h => h) (by rfl) (fun w hSw => ?_) (by assumption) ?_; rotate_left 1; focus (((try dsimp only at hSw); first | (go_simp; done) | (go_simp; with_reducible rfl)))
              try simp only [Act.put, List.setIfInBounds_toArray, List.set_cons_zero, List.set_cons_succ]
              refine held_take (i := 18) (v := ?_) rfl (by kernel_rfl) (by kernel_rfl) (by kernel_rfl) (fun _ _ _ h => h) (by rfl) (fun w hSw => ?_) (by assumption) ?_; rotate_left 1; focus (((try dsimp only at hSw); first | (go_simp; done) | (go_simp; with_reducible rfl)))
              try simp only [Act.put, List.setIfInBounds_toArray, List.set_cons_zero, List.set_cons_succ]
              refine held_take (i := 19) (v := ?_) rfl (by kernel_rfl) (by kernel_rfl) (by kernel_rfl) (fun _ _ _ h => h) (by rfl) (fun w hSw => ?_) (by assumption) ?_; rotate_left 1; focus (((try dsimp only at hSw); first | (go_simp; done) | (go_simp; with_reducible rfl)))
              try simp only [Act.put, List.setIfInBounds_toArray, List.set_cons_zero, List.set_cons_succ]
              refine wpAnyH_done (by kernel_rfl) ?_ _
              go_wp2_with fail
              go_meet
              exact ⟨rfl, hHeld.2.out⟩
          · go_simp
            clear c17
            refine hK.out _ _ hHeld (fun hHeld => ?_)
            try simp only [Act.put, List.setIfInBounds_toArray, List.set_cons_zero, List.set_cons_succ]
            refine held_call (i := 7) (by kernel_rfl) rfl (by rfl) (fun K hK => ?_)
            go_simp
            (go_at_call 43; ((with_reducible refine (P2.out _).mono ?_); rintro e u7 ⟨rfl, hb7⟩))
            have B7 := Lib.hid (below_of (w := V) B2.out hb7)
            clear hb7
            refine hK.out _ _ (SX.out _ B7.out) (fun hHeld => ?_)
            try simp only [Act.put, List.setIfInBounds_toArray, List.set_cons_zero, List.set_cons_succ]
            refine held_take (i := 8) (v := ?_) rfl (by kernel_rfl) (by kernel_rfl) (by kernel_rfl) (fun _ _ _ h => h) (by rfl) (fun w hSw => ?_) (by assumption) ?_; rotate_left 1; focus (((try dsimp only at hSw); first | (go_simp; done) | (go_simp; with_reducible rfl)))
            try simp only [Act.put, List.setIfInBounds_toArray, List.set_cons_zero, List.set_cons_succ]
            refine held_call (i := 11) (by kernel_rfl) rfl (by rfl) (fun K hK => ?_)
            go_simp
            (go_at_call 42; ((with_reducible refine (P3.out _).mono ?_); rintro e u11 ⟨rfl, hb11⟩))
            have B11 := Lib.hid (below_of (w := V) B7.out hb11)
            clear hb11
            refine hK.out _ _ (SX.out _ B11.out) (fun hHeld => ?_)
            try simp only [Act.put, List.setIfInBounds_toArray, List.set_cons_zero, List.set_cons_succ]
            refine held_take (i := 12) (v := ?_) rfl (by kernel_rfl) (by kernel_rfl) (by kernel_rfl) (fun _ _ _ h => h) (by rfl) (fun w hSw => ?_) (by assumption) ?_; rotate_left 1; focus (((try dsimp only at hSw); first | (go_simp; done) | (go_simp; with_reducible rfl)))
            try simp only [Act.put, List.setIfInBounds_toArray, List.set_cons_zero, List.set_cons_succ]
            refine held_take (i := 18) (v := ?_) rfl (by kernel_rfl) (by kernel_rfl) (by kernel_rfl) (fun _ _ _ h => h) (by rfl) (fun w hSw => ?_) (by assumption) ?_; rotate_left 1; focus (((try dsimp only at hSw); first | (go_simp; done) | (go_simp; with_reducible rfl)))
            try simp only [Act.put, List.setIfInBounds_toArray, List.set_cons_zero, List.set_cons_succ]
            refine held_take (i := 19) (v := ?_) rfl (by kernel_rfl) (by kernel_rfl) (by kernel_rfl) (fun _ _ _ h => h) (by rfl) (fun w hSw => ?_) (by assumption) ?_; rotate_left 1; focus (((try dsimp only at hSw); first | (go_simp; done) | (go_simp; with_reducible rfl)))
            try simp only [Act.put, List.setIfInBounds_toArray, List.set_cons_zero, List.set_cons_succ]
            refine wpAnyH_done (by kernel_rfl) ?_ _
            go_wp2_with fail
            go_meet
            exact ⟨rfl, hHeld.2.out⟩
        · go_simp
          clear c17
          refine hK.out _ _ hHeld (fun hHeld => ?_)
          try simp only [Act.put, List.setIfInBounds_toArray, List.set_cons_zero, List.set_cons_succ]
          refine held_call (i := 2) (by kernel_rfl) rfl (by rfl) (fun K hK => ?_)
          go_simp
          (go_at_call 42; ((with_reducible refine (P1.out _).mono ?_); rintro e u2 ⟨rfl, hb2⟩))
          have B2 := Lib.hid (below_of (w := V) B16.out hb2)
          clear hb2
          refine hK.out _ _ (SX.out _ B2.out) (fun hHeld => ?_)
          try simp only [Act.put, List.setIfInBounds_toArray, List.set_cons_zero, List.set_cons_succ]
          refine held_call (i := 7) (by kernel_rfl) rfl (by rfl) (fun K hK => ?_)
          go_simp
          (go_at_call 43; ((with_reducible refine (P2.out _).mono ?_); rintro e u7 ⟨rfl, hb7⟩))
          have B7 := Lib.hid (below_of (w := V) B2.out hb7)
          clear hb7
          refine hK.out _ _ (SX.out _ B7.out) (fun hHeld => ?_)
          try simp only [Act.put, List.setIfInBounds_toArray, List.set_cons_zero, List.set_cons_succ]
          refine held_take (i := 8) (v := ?_) rfl (by kernel_rfl) (by kernel_rfl) (by kernel_rfl) (fun _ _ _ h => h) (by rfl) (fun w hSw => ?_) (by assumption) ?_; rotate_left 1; focus (((try dsimp only at hSw); first | (go_simp; done) | (go_simp; with_reducible rfl)))
          try simp only [Act.put, List.setIfInBounds_toArray, List.set_cons_zero, List.set_cons_succ]
          refine held_call (i := 11) (by kernel_rfl) rfl (by rfl) (fun K hK => ?_)
          go_simp
          (go_at_call 42; ((with_reducible refine (P3.out _).mono ?_); rintro e u11 ⟨rfl, hb11⟩))
          have B11 := Lib.hid (below_of (w := V) B7.out hb11)
          clear hb11
          refine hK.out _ _ (SX.out _ B11.out) (fun hHeld => ?_)
          try simp only [Act.put, List.setIfInBounds_toArray, List.set_cons_zero, List.set_cons_succ]
          refine held_take (i := 12) (v := ?_) rfl (by kernel_rfl) (by kernel_rfl) (by kernel_rfl) (fun _ _ _ h => h) (by rfl) (fun w hSw => ?_) (by assumption) ?_; rotate_left 1; focus (((try dsimp only at hSw); first | (go_simp; done) | (go_simp; with_reducible rfl)))
          try simp only [Act.put, List.setIfInBounds_toArray, List.set_cons_zero, List.set_cons_succ]
          refine held_take (i := 18) (v := ?_) rfl (by kernel_rfl) (by kernel_rfl) (by kernel_rfl) (fun _ _ _ h => h) (by rfl) (fun w hSw => ?_) (by assumption) ?_; rotate_left 1; focus (((try dsimp only at hSw); first | (go_simp; done) | (go_simp; with_reducible rfl)))
          try simp only [Act.put, List.setIfInBounds_toArray, List.set_cons_zero, List.set_cons_succ]
          refine held_take (i := 19) (v := ?_) rfl (by kernel_rfl) (by kernel_rfl) (by kernel_rfl) (fun _ _ _ h => h) (by rfl) (fun w hSw => ?_) (by assumption) ?_; rotate_left 1; focus (((try dsimp only at hSw); first | (go_simp; done) | (go_simp; with_reducible rfl)))
          try simp only [Act.put, List.setIfInBounds_toArray, List.set_cons_zero, List.set_cons_succ]
          refine wpAnyH_done (by kernel_rfl) ?_ _
          go_wp2_with fail
          go_meet
          exact ⟨rfl, hHeld.2.out⟩
    case rest =>
      obtain ⟨rfl, hc2⟩ := hcut
      have RW := Lib.hid (RV.out.below hc2)
      have XW := XV.out.below hc2
      have BW := Lib.hid (BV.out.trans (But.of_below hc2 (Nat.le_refl _)))
      obtain ⟨⟨x0, x1, x2, x3⟩, _⟩ := XW.cells
      simp only at x0 x1 x2 x3
      clear XW XV RV BV hc2 B0 SX
      rcases hk12 with rfl | rfl
      · have hV3 := Lib.hid (hV1.out rfl)
        go_wp2_with (go_at_call 43; ((with_reducible refine (PV.out _).mono ?_); rintro e u9 ⟨rfl, hb9⟩))
        go_returns
        exact ⟨by rw [hE.out, hV3.out]; simp only [← List.append_assoc, ← cat_ba]; rfl, RW.out.below hb9, BW.out.trans (But.of_below hb9 (Nat.le_refl _))⟩
      · have hV3 := Lib.hid (hV2.out (by decide))
        go_wp2_with fail
        go_returns
        exact ⟨by rw [hE.out, hV3.out, List.append_nil]; simp only [← List.append_assoc, ← cat_ba]; rfl, RW.out, BW.out⟩
end Go.Proofs.Ytnmlifagchdphaa
