/-
  The contracts of find. No condition.
-/
import Derived.Test.YtnmlifagchdphaaPack7
import Derived.Maps.AppendAt
import Derived.Laws.EntriesVeiled
namespace Go.Proofs.Ytnmlifagchdphaa
set_option maxRecDepth 100000
open Go.RowKit
/-- How many of the first n stand ahead. -/
def Cut (n : Nat) (P : Nat → Bool) (r : Nat) : Prop := r ≤ n ∧ ∀ j, j < n → (P j = true ↔ j < r)
set_option maxRecDepth 100000 in
set_option maxHeartbeats 4000000 in
theorem find_rows (G : FuncId) (x y : Nat) (hE : ∀ (args : Array Value) (w : World), (callFunc G args).run Try.prog w = .ok (.enter G args) w) (P : Nat → Bool) {p : Option Addr} {n c b o : Nat} {l : List Rw} {w : World} (h : Rs p n c b o l w) (hn : n ≤ 1048576)
    (hP : ∀ i j, i ≤ j → j < n → P j = true → P i = true)
    (hG : ∀ u, Below w.heap.size w u → ∀ j v, l[j]? = some v → Calls Try.prog G #[.agg #[.string v.key, .int .u64 (v.seq : Int), .int .i64 v.kind, .string v.val], .pointer (some ⟨x, 0, none⟩), .pointer (some ⟨y, 0, none⟩)] u fun e u' => e = .returned (.bool (P j)) ∧ Below u.heap.size u u') :
    Calls Try.prog 21 #[.slice p n c, .func (.func G) #[] #[.pointer (some ⟨x, 0, none⟩), .pointer (some ⟨y, 0, none⟩)]] w fun e w' => ∃ r, Cut n P r ∧ e = .returned (.int .i64 (r : Int)) ∧ Below w.heap.size w w' := by
  have m0 := h.most
  have q0 := h.cap
  have hlen := Lib.hid h.len
  have h := Lib.hid h
  have hG := Lib.hid hG
  have hP := Lib.hid hP
  go_enter Try.func21, Try.ntmps21
  go_wp2_with fail
  go_loopw [5, 6] (fun a b' wr => ∃ lo hi : Nat, lo ≤ hi ∧ hi ≤ n ∧ a = .int .i64 (lo : Int) ∧ b' = .int .i64 (hi : Int) ∧ (∀ j, j < lo → P j = true) ∧ (∀ j, hi ≤ j → j < n → P j = false) ∧ Below w.heap.size w wr) (fun a b' _ => (intOf b').toNat - (intOf a).toNat)
  case atStart => exact ⟨0, n, Nat.zero_le _, Nat.le_refl _, rfl, rfl, fun j hj => absurd hj (by omega), fun j h1 h2 => absurd h1 (by omega), Below.refl _ _⟩
  case round =>
    obtain ⟨lo, hi, h1, h2, rfl, rfl, f1, f2, hb⟩ := hrel
    have f1 := Lib.hid f1
    have f2 := Lib.hid f2
    have hb := Lib.hid hb
    by_cases hlt : lo < hi
    · obtain ⟨m, hm⟩ := named (lo + (hi - lo) / 2)
      have hm1 : lo ≤ m := by rw [hm.out]; omega
      have hm2 : m < hi := by rw [hm.out]; omega
      obtain ⟨v, hv, rfl, x0, x1, x2, x3⟩ := (h.out.below hb.out (Nat.le_refl _)).at4 (show m < n by omega)
      have AC := Lib.hid (hG.out wr hb.out m v hv)
      have e1 : (lo : Int) + ((hi : Int) - (lo : Int)) / 2 = (m : Int) := by rw [hm.out]; omega
      have e2 : wrap64 ((lo : Int) + ((hi : Int) - (lo : Int)) / 2) = (m : Int) := by rw [e1]; unfold wrap64; omega
      have e3 : wrap64 ((hi : Int) - (lo : Int)) = (hi : Int) - (lo : Int) := by unfold wrap64; omega
      have i0 : (m : Int) < (n : Int) := by omega
      have i1 : m < n := by omega
      have i2 : (lo : Int) < (hi : Int) := by omega
      obtain ⟨vk, vs, vi, vv⟩ := v
      simp only at x0 x1 x2 x3 AC
      obtain ⟨T, hT⟩ := named (P m)
      rw [← hT.out] at AC
      clear hv hm
      cases T with
      | true =>
        go_wp2_with fail
        refine AC.out.mono ?_
        rintro e w2 ⟨rfl, hb2⟩
        have B2 := Lib.hid (below_of hb.out hb2)
        clear hb2
        go_wp2_with fail
        go_roundw
        case rel => exact ⟨m + 1, hi, by omega, h2, by go_num, rfl, fun j hj => hP.out j m (by omega) (by omega) (by rw [← hT.out]), f2.out, B2.out⟩
        case measure => simp [intOf]; omega
      | false =>
        go_wp2_with fail
        refine AC.out.mono ?_
        rintro e w2 ⟨rfl, hb2⟩
        have B2 := Lib.hid (below_of hb.out hb2)
        clear hb2
        go_wp2_with fail
        go_roundw
        case rel => exact ⟨lo, m, by omega, by omega, rfl, rfl, f1.out, fun j hj hjn => by cases hj2 : P j with | false => rfl | true => exact absurd (hP.out m j hj hjn hj2) (by rw [← hT.out]; decide), B2.out⟩
        case measure => simp [intOf]; omega
    · have hlh : lo = hi := by omega
      subst hlh
      have i2 : ¬ (lo : Int) < (lo : Int) := by omega
      go_wp2_with fail
      go_returns
      refine ⟨lo, ⟨h2, fun j hj => ⟨fun hp => ?_, fun hl => f1.out j hl⟩⟩, rfl, hb.out⟩
      rcases Nat.lt_or_ge j lo with hjl | hjl
      · exact hjl
      · rw [f2.out j hjl hj] at hp; cases hp
set_option maxRecDepth 100000 in
set_option maxHeartbeats 4000000 in
theorem find_nums (G : FuncId) (x y : Nat) (hE : ∀ (args : Array Value) (w : World), (callFunc G args).run Try.prog w = .ok (.enter G args) w) (P : Nat → Bool) (f : Nat → Nat) {p : Option Addr} {n c : Nat} {w : World} (hc : n ≤ c) (hm9 : c ≤ 9223372036854775807) (hn : n ≤ 1048576)
    (hcell : ∀ u, Below w.heap.size w u → ∀ j, j < n → ∃ b, p = some ⟨b, 0, none⟩ ∧ u.cell? ⟨b, j, none⟩ = some (.int .i64 (f j : Int)))
    (hP : ∀ i j, i ≤ j → j < n → P j = true → P i = true)
    (hG : ∀ u, Below w.heap.size w u → ∀ j, j < n → Calls Try.prog G #[.int .i64 (f j : Int), .pointer (some ⟨x, 0, none⟩), .pointer (some ⟨y, 0, none⟩)] u fun e u' => e = .returned (.bool (P j)) ∧ Below u.heap.size u u') :
    Calls Try.prog 19 #[.slice p n c, .func (.func G) #[] #[.pointer (some ⟨x, 0, none⟩), .pointer (some ⟨y, 0, none⟩)]] w fun e w' => ∃ r, Cut n P r ∧ e = .returned (.int .i64 (r : Int)) ∧ Below w.heap.size w w' := by
  have hcell := Lib.hid hcell
  have hG := Lib.hid hG
  have hP := Lib.hid hP
  go_enter Try.func19, Try.ntmps19
  go_wp2_with fail
  go_loopw [5, 6] (fun a b' wr => ∃ lo hi : Nat, lo ≤ hi ∧ hi ≤ n ∧ a = .int .i64 (lo : Int) ∧ b' = .int .i64 (hi : Int) ∧ (∀ j, j < lo → P j = true) ∧ (∀ j, hi ≤ j → j < n → P j = false) ∧ Below w.heap.size w wr) (fun a b' _ => (intOf b').toNat - (intOf a).toNat)
  case atStart => exact ⟨0, n, Nat.zero_le _, Nat.le_refl _, rfl, rfl, fun j hj => absurd hj (by omega), fun j h1 h2 => absurd h1 (by omega), Below.refl _ _⟩
  case round =>
    obtain ⟨lo, hi, h1, h2, rfl, rfl, f1, f2, hb⟩ := hrel
    have f1 := Lib.hid f1
    have f2 := Lib.hid f2
    have hb := Lib.hid hb
    by_cases hlt : lo < hi
    · obtain ⟨m, hm⟩ := named (lo + (hi - lo) / 2)
      have hm1 : lo ≤ m := by rw [hm.out]; omega
      have hm2 : m < hi := by rw [hm.out]; omega
      obtain ⟨b, rfl, x0⟩ := hcell.out wr hb.out m (by omega)
      have AC := Lib.hid (hG.out wr hb.out m (by omega))
      have e1 : (lo : Int) + ((hi : Int) - (lo : Int)) / 2 = (m : Int) := by rw [hm.out]; omega
      have e2 : wrap64 ((lo : Int) + ((hi : Int) - (lo : Int)) / 2) = (m : Int) := by rw [e1]; unfold wrap64; omega
      have e3 : wrap64 ((hi : Int) - (lo : Int)) = (hi : Int) - (lo : Int) := by unfold wrap64; omega
      have i0 : (m : Int) < (n : Int) := by omega
      have i1 : m < n := by omega
      have i2 : (lo : Int) < (hi : Int) := by omega
      obtain ⟨F, hF⟩ := named (f m)
      rw [← hF.out] at x0 AC
      obtain ⟨T, hT⟩ := named (P m)
      rw [← hT.out] at AC
      clear hm
      cases T with
      | true =>
        go_wp2_with fail
        refine AC.out.mono ?_
        rintro e w2 ⟨rfl, hb2⟩
        have B2 := Lib.hid (below_of hb.out hb2)
        clear hb2
        go_wp2_with fail
        go_roundw
        case rel => exact ⟨m + 1, hi, by omega, h2, by go_num, rfl, fun j hj => hP.out j m (by omega) (by omega) (by rw [← hT.out]), f2.out, B2.out⟩
        case measure => simp [intOf]; omega
      | false =>
        go_wp2_with fail
        refine AC.out.mono ?_
        rintro e w2 ⟨rfl, hb2⟩
        have B2 := Lib.hid (below_of hb.out hb2)
        clear hb2
        go_wp2_with fail
        go_roundw
        case rel => exact ⟨lo, m, by omega, by omega, rfl, rfl, f1.out, fun j hj hjn => by cases hj2 : P j with | false => rfl | true => exact absurd (hP.out m j hj hjn hj2) (by rw [← hT.out]; decide), B2.out⟩
        case measure => simp [intOf]; omega
    · have hlh : lo = hi := by omega
      subst hlh
      have i2 : ¬ (lo : Int) < (lo : Int) := by omega
      go_wp2_with fail
      go_returns
      refine ⟨lo, ⟨h2, fun j hj => ⟨fun hp => ?_, fun hl => f1.out j hl⟩⟩, rfl, hb.out⟩
      rcases Nat.lt_or_ge j lo with hjl | hjl
      · exact hjl
      · rw [f2.out j hjl hj] at hp; cases hp
end Go.Proofs.Ytnmlifagchdphaa
/-
  Plain mathematics of Seek: where the place is. No model's run in this text. No condition.
-/
namespace Go.Proofs.Ytnmlifagchdphaa
set_option maxRecDepth 100000
open Go.RowKit
theorem sorted_of {l : List Rw} (h : ordR l = true) : SortedR l := by
  unfold SortedR
  rw [List.pairwise_iff_getElem]
  have K : ∀ k i, (hi : i < l.length) → (hk : i + 1 + k < l.length) → ahd l[i] l[i + 1 + k].key l[i + 1 + k].seq = true := by
    intro k
    induction k with
    | zero => intro i hi hk; exact (ordR_iff l).1 h i _ _ (List.getElem?_eq_getElem hi) (List.getElem?_eq_getElem hk)
    | succ k ih =>
      intro i hi hk
      have h1 := ih i hi (by omega)
      have h2 := (ordR_iff l).1 h (i + 1 + k) _ _ (List.getElem?_eq_getElem (by omega)) (List.getElem?_eq_getElem (show i + 1 + k + 1 < l.length by omega))
      exact ahd_trans h1 h2
  intro i j hi hj hij
  obtain ⟨k, rfl⟩ : ∃ k, j = i + 1 + k := ⟨j - i - 1, by omega⟩
  exact K k i hi hj
theorem place_iff {l : List Rw} (h : ordR l = true) {k : ByteArray} {q j : Nat} (hj : j < l.length) : ahd (rwAt l j) k q = true ↔ j < plc l k q := by
  have hx := List.getElem?_eq_getElem hj
  rw [rwAt_some hx]
  exact plc_iff (sorted_of h) hx
theorem place_anti {l : List Rw} (h : ordR l = true) {k : ByteArray} {q i j : Nat} (hij : i ≤ j) (hj : j < l.length) (hp : ahd (rwAt l j) k q = true) : ahd (rwAt l i) k q = true := by
  rw [place_iff h hj] at hp
  rw [place_iff h (by omega)]
  omega
theorem seek_at {l : List Rw} (h : ordR l = true) {k : ByteArray} {q d K m r F U : Nat} (hd : 1 ≤ d) (hK1 : l.length ≤ K * d) (hK2 : ∀ j, j < K → j * d < l.length) (hm : Cut K (fun j => ahd (rwAt l (j * d)) k q) m)
    (hF : F = (m - 1) * d) (hU : U = min (m * d) l.length) (hr : Cut (U - F) (fun j => ahd (rwAt l (F + j)) k q) r) : F + r = plc l k q := by
  obtain ⟨hm1, hm2⟩ := hm
  obtain ⟨hr1, hr2⟩ := hr
  have hp := plc_le l k q
  have hm3 : ∀ j, j < K → (j * d < plc l k q ↔ j < m) := fun j hj => by rw [← place_iff h (hK2 j hj)]; exact hm2 j hj
  have hUl0 : U ≤ l.length := by rw [hU]; exact Nat.min_le_right _ _
  have hr3 : ∀ j, j < U - F → (F + j < plc l k q ↔ j < r) := fun j hj => by rw [← place_iff h (by omega)]; exact hr2 j hj
  have hFU : F ≤ plc l k q := by
    rcases Nat.eq_zero_or_pos m with e | e
    · subst e; rw [hF]; simp
    · have := (hm3 (m - 1) (by omega)).2 (by omega)
      rw [hF]
      exact Nat.le_of_lt this
  have hPU : plc l k q ≤ U := by
    rw [hU]
    refine Nat.le_min.2 ⟨?_, hp⟩
    rcases Nat.lt_or_ge m K with e | e
    · exact Nat.le_of_not_lt fun hh => Nat.lt_irrefl m ((hm3 m e).1 hh)
    · have : m = K := Nat.le_antisymm hm1 e
      rw [this]
      exact Nat.le_trans hp hK1
  have hUl : U ≤ l.length := by rw [hU]; exact Nat.min_le_right _ _
  clear hF hU hm3 hm2 hK2 hK1 hr2
  rcases Nat.lt_trichotomy (F + r) (plc l k q) with e | e | e
  · exact absurd ((hr3 r (by omega)).1 e) (Nat.lt_irrefl r)
  · exact e
  · have := (hr3 (plc l k q - F) (by omega)).2 (by omega)
    omega
end Go.Proofs.Ytnmlifagchdphaa
/-
  The contract of Seek. Condition: at most 2^20 bytes.
-/
namespace Go.Proofs.Ytnmlifagchdphaa
set_option maxRecDepth 100000
open Go.RowKit
set_option maxRecDepth 100000 in
set_option maxHeartbeats 2000000 in
theorem ahead_clo (x : Rw) (k : ByteArray) (q b4 b5 : Nat) (w : World) (c4 : w.cell? ⟨b4, 0, none⟩ = some (.string k)) (c5 : w.cell? ⟨b5, 0, none⟩ = some (.int .u64 (q : Int))) :
    Calls Try.prog 17 #[.agg #[.string x.key, .int .u64 (x.seq : Int), .int .i64 x.kind, .string x.val], .pointer (some ⟨b4, 0, none⟩), .pointer (some ⟨b5, 0, none⟩)] w fun e w' => e = .returned (.bool (ahd x k q)) ∧ Below w.heap.size w w' := by
  have R0 := RowAt.new x w
  have W0 := Lib.hid (below_alloc w (.cells #[.string x.key, .int .u64 (x.seq : Int), .int .i64 x.kind, .string x.val] 33))
  have d4 := cell_keep W0.out c4
  have d5 := cell_keep W0.out c5
  have BC := Lib.hid (fun u => before_any x k q u)
  obtain ⟨T, hT⟩ := named (ahd x k q)
  rw [← hT.out] at BC ⊢
  obtain ⟨xk, xs, xi, xv⟩ := x
  simp only at *
  obtain ⟨x0, x1, x2, x3⟩ := R0.c4
  go_enter Try.func17, Try.ntmps17
  go_wp2_with (go_at_call 18; ((with_reducible refine (BC.out _).mono ?_); rintro e w1 ⟨rfl, hb1⟩))
  go_returns
  exact ⟨rfl, below_of W0.out hb1⟩
theorem ahead_enters : ∀ (args : Array Value) (w : World), (callFunc 17 args).run Try.prog w = .ok (.enter 17 args) w := enters_of Try.func17 (by kernel_rfl) rfl
theorem at_enters : ∀ (args : Array Value) (w : World), (callFunc 20 args).run Try.prog w = .ok (.enter 20 args) w := enters_of Try.func20 (by kernel_rfl) rfl
set_option maxRecDepth 100000 in
set_option maxHeartbeats 2000000 in
theorem at_clo {p : Option Addr} {n c b o : Nat} {l : List Rw} {w : World} (h : Rs p n c b o l w) (j : Nat) (hj : j < n) (k : ByteArray) (q b4 b5 b8 b13 : Nat) (c4 : w.cell? ⟨b4, 0, none⟩ = some (.string k)) (c5 : w.cell? ⟨b5, 0, none⟩ = some (.int .u64 (q : Int)))
    (c8 : w.cell? ⟨b8, 0, none⟩ = some (.slice p n c)) (c13 : w.cell? ⟨b13, 0, none⟩ = some (.func (.func 17) #[] #[.pointer (some ⟨b4, 0, none⟩), .pointer (some ⟨b5, 0, none⟩)])) :
    Calls Try.prog 20 #[.int .i64 (j : Int), .pointer (some ⟨b13, 0, none⟩), .pointer (some ⟨b8, 0, none⟩)] w fun e w' => e = .returned (.bool (ahd (rwAt l j) k q)) ∧ Below w.heap.size w w' := by
  obtain ⟨x, hx, rfl, x0, x1, x2, x3⟩ := h.at4 hj
  rw [rwAt_some hx]
  have hE := ahead_enters
  have m0 := h.most
  have q0 := h.cap
  have AC := Lib.hid (ahead_clo x k q b4 b5 w.drew c4 c5)
  obtain ⟨T, hT⟩ := named (ahd x k q)
  rw [← hT.out] at AC ⊢
  obtain ⟨xk, xs, xi, xv⟩ := x
  simp only at x0 x1 x2 x3 AC
  have i0 : (j : Int) < (n : Int) := by omega
  have B0 := Lib.hid (Below.refl w.heap.size w).drew
  clear h hx
  go_enter Try.func20, Try.ntmps20
  go_upto_region 1 with fail
  refine wp_region_held_drew (S := (fun v => (v.cell? ⟨b13, 0, none⟩ = some (.func (.func 17) #[] #[.pointer (some ⟨b4, 0, none⟩), .pointer (some ⟨b5, 0, none⟩)]) ∧ v.cell? ⟨b8, 0, none⟩ = some (.slice (some ⟨b, o, none⟩) n c) ∧ v.cell? ⟨b, o + j * 4, none⟩ = some (.string xk) ∧ v.cell? ⟨b, o + j * 4 + 1, none⟩ = some (.int .u64 (xs : Int)) ∧ v.cell? ⟨b, o + j * 4 + 2, none⟩ = some (.int .i64 xi) ∧ v.cell? ⟨b, o + j * 4 + 3, none⟩ = some (.string xv)) ∧ Hid (Below w.heap.size w v))) (by kernel_rfl) (⟨⟨c13, c8, x0, x1, x2, x3⟩, B0⟩) (fun hHeld => ?_)
  refine held_take (i := 0) (v := ?_) rfl (by kernel_rfl) (by kernel_rfl) (by kernel_rfl) (fun _ _ _ h => h) (by rfl) (fun w hSw => ?_) (by assumption) ?_; rotate_left 1; focus (((try dsimp only at hSw); first | (go_simp; done) | (go_simp; with_reducible rfl)))
  try simp only [Act.put, List.setIfInBounds_toArray, List.set_cons_zero, List.set_cons_succ]
  refine held_take (i := 1) (v := ?_) rfl (by kernel_rfl) (by kernel_rfl) (by kernel_rfl) (fun _ _ _ h => h) (by rfl) (fun w hSw => ?_) (by assumption) ?_; rotate_left 1; focus (((try dsimp only at hSw); first | (go_simp; done) | (go_simp; with_reducible rfl)))
  try simp only [Act.put, List.setIfInBounds_toArray, List.set_cons_zero, List.set_cons_succ]
  refine held_take (i := 2) (v := ?_) rfl (by kernel_rfl) (by kernel_rfl) (by kernel_rfl) (fun _ _ _ h => h) (by rfl) (fun w hSw => ?_) (by assumption) ?_; rotate_left 1; focus (((try dsimp only at hSw); first | (go_simp; done) | (go_simp; with_reducible rfl)))
  try simp only [Act.put, List.setIfInBounds_toArray, List.set_cons_zero, List.set_cons_succ]
  refine held_take (i := 3) (v := ?_) rfl (by kernel_rfl) (by kernel_rfl) (by kernel_rfl) (fun _ _ _ h => h) (by rfl) (fun w hSw => ?_) (by assumption) ?_; rotate_left 1; focus (((try dsimp only at hSw); first | (go_simp; done) | (go_simp; with_reducible rfl)))
  try simp only [Act.put, List.setIfInBounds_toArray, List.set_cons_zero, List.set_cons_succ]
  refine held_take (i := 4) (v := ?_) rfl (by kernel_rfl) (by kernel_rfl) (by kernel_rfl) (fun _ _ _ h => h) (by rfl) (fun w hSw => ?_) (by assumption) ?_; rotate_left 1; focus (((try dsimp only at hSw); first | (go_simp; done) | (go_simp; with_reducible rfl)))
  try simp only [Act.put, List.setIfInBounds_toArray, List.set_cons_zero, List.set_cons_succ]
  refine held_call (i := 5) (by kernel_rfl) rfl (by rfl) (fun K hK => ?_)
  go_simp
  refine AC.out.mono ?_
  rintro e u1 ⟨rfl, hb1⟩
  have B1 := Lib.hid (below_of (w := w) B0.out hb1)
  clear hb1
  refine hK.out _ _ (⟨⟨cell_keep B1.out c13, cell_keep B1.out c8, cell_keep B1.out x0, cell_keep B1.out x1, cell_keep B1.out x2, cell_keep B1.out x3⟩, B1⟩) (fun hHeld => ?_)
  try simp only [Act.put, List.setIfInBounds_toArray, List.set_cons_zero, List.set_cons_succ]
  refine held_take (i := 6) (v := ?_) rfl (by kernel_rfl) (by kernel_rfl) (by kernel_rfl) (fun _ _ _ h => h) (by rfl) (fun w hSw => ?_) (by assumption) ?_; rotate_left 1; focus (((try dsimp only at hSw); first | (go_simp; done) | (go_simp; with_reducible rfl)))
  try simp only [Act.put, List.setIfInBounds_toArray, List.set_cons_zero, List.set_cons_succ]
  refine wpAnyH_done (by kernel_rfl) ?_ _
  go_wp2_with fail
  go_returns
  exact ⟨rfl, hHeld.2.out⟩
theorem wrap64_small (x : Int) (h1 : -1 ≤ x) (h2 : x ≤ 1000000) : wrap64 x = x := by unfold wrap64; omega
theorem wrapi_small (x : Int) (h1 : -1 ≤ x) (h2 : x ≤ 1000000) : IntKind.i64.wrap x = x := by rw [IntKind.wrap_i64]; omega
theorem wrapi_nat (x : Nat) (h2 : x ≤ 1000000) : IntKind.i64.wrap (x : Int) = x := by rw [IntKind.wrap_i64]; omega
/-- The restarts' rows. -/
def numsI (d k : Nat) : List Value := (List.range k).map fun j => Value.int .i64 ((j * d : Nat) : Int)
theorem numsI_snoc (d k : Nat) : numsI d (k + 1) = numsI d k ++ [.int .i64 ((k * d : Nat) : Int)] := by simp [numsI, List.range_succ]
theorem numsI_len (d k : Nat) : (numsI d k).length = k := by simp [numsI]
theorem numsI_at (d : Nat) {k j : Nat} (h : j < k) : (numsI d k)[j]? = some (.int .i64 ((j * d : Nat) : Int)) := by
  unfold numsI
  rw [List.getElem?_map, List.getElem?_range h]; rfl
theorem info_intB : (Try.prog.info? 3).map (fun i => (i.zero, i.size, i.bytes)) = some (some (.int .i64 0), 1, 8) := by kernel_rfl
theorem nums_cells {w : World} {B d k c : Nat} {p : Option Addr} (h : w.ownsRow B 3 1 (.slice p k c) k (numsI d k)) : k ≤ c ∧ c ≤ 9223372036854775807 ∧ ∀ j, j < k → ∃ b, p = some ⟨b, 0, none⟩ ∧ w.cell? ⟨b, j, none⟩ = some (.int .i64 ((j * d : Nat) : Int)) := by
  rcases h.2 with ⟨e, hz⟩ | ⟨g, cap, cur, e, hg, hb, hn, hm, hs, ht⟩
  · simp only [Value.slice.injEq] at e
    obtain ⟨rfl, rfl, rfl⟩ := e
    exact ⟨Nat.le_refl _, by omega, fun j hj => absurd hj (by omega)⟩
  · simp only [Value.slice.injEq, true_and] at e
    obtain ⟨rfl, rfl⟩ := e
    refine ⟨hn, hm, fun j hj => ⟨g, rfl, ?_⟩⟩
    exact (World.ownsRow.cellAt h j (by omega)).trans (numsI_at d hj)
/-- What Seek answers. -/
def SeekD (L : List UInt8) (k : ByteArray) (q : Nat) (w : World) (e : Ending) (w' : World) : Prop :=
  (∃ l d a c b o, IsB L l d ∧ e = .returned (.tuple #[.slice a (l.length - plc l k q) c, .int .i64 0]) ∧ Rs a (l.length - plc l k q) c b o (l.drop (plc l k q)) w' ∧ Below w.heap.size w w') ∨
  ((∀ l d, ¬ IsB L l d) ∧ e = .returned (.tuple #[.slice none 0 0, .int .i64 7]) ∧ Below w.heap.size w w')
set_option maxRecDepth 100000 in
set_option maxHeartbeats 8000000 in
theorem seek_any (L : List UInt8) (hL : L.length ≤ 1048576) (key : ByteArray) (q : Nat) (w : World) :
    Calls Try.prog 9 #[.string ⟨L.toArray⟩, .string key, .int .u64 (q : Int)] w (SeekD L key q w) := by
  have DC := Lib.hid (fun u => decode_any L hL u)
  have mf := makes_func
  have W0 := Lib.hid (below_of (below_alloc w (.cells #[.string key] 9)) (below_alloc (w.alloc (.cells #[.string key] 9)) (.cells #[.int .u64 (q : Int)] 29)))
  have b4 : ((w.alloc (.cells #[.string key] 9)).alloc (.cells #[.int .u64 (q : Int)] 29)).cell? ⟨w.heap.size, 0, none⟩ = some (.string key) := cell_keep (below_alloc _ _) (by rw [World.cell?_alloc_new]; rfl)
  have b5 : ((w.alloc (.cells #[.string key] 9)).alloc (.cells #[.int .u64 (q : Int)] 29)).cell? ⟨w.heap.size + 1, 0, none⟩ = some (.int .u64 (q : Int)) := by
    have := World.cell?_alloc_new (w.alloc (.cells #[.string key] 9)) #[.int .u64 (q : Int)] 29 0
    rw [World.size_alloc] at this
    rw [this]; rfl
  have b4 := Lib.hid b4
  have b5 := Lib.hid b5
  go_enter Try.func9, Try.ntmps9
  go_wp2_with fail
  refine (DC.out _).mono ?_
  generalize (w.alloc (.cells #[.string key] 9)).alloc (.cells #[.int .u64 (q : Int)] 29) = W2 at *
  rintro e w3 (⟨l, d, a, c, b, hB, rfl, hRs, hbb, hw⟩ | ⟨hno, rfl, hw⟩)
  · have W3 := Lib.hid (below_of W0.out hw)
    have c4 := cell_keep hw b4.out
    have c5 := cell_keep hw b5.out
    have hRs := Lib.hid hRs
    have hB := Lib.hid hB
    clear hbb hw b4 b5 W0
    have SD : Hid (∀ e w', (∃ a c b o, e = .returned (.tuple #[.slice a (l.length - plc l key q) c, .int .i64 0]) ∧ Rs a (l.length - plc l key q) c b o (l.drop (plc l key q)) w' ∧ Below w.heap.size w w') → SeekD L key q w e w') := Lib.hid (fun e w' ⟨a, c, b, o, h1, h2, h3⟩ => .inl ⟨l, d, a, c, b, o, hB.out, h1, h2, h3⟩)
    obtain ⟨k1, k2, k3, _, k5⟩ := chkA_ok hB.out.1
    have k3 := Lib.hid k3
    obtain ⟨n, hn⟩ : ∃ n, l.length = n := ⟨_, rfl⟩
    rw [hn] at hRs SD k5 ⊢
    have m0 := hRs.out.most
    have q0 := hRs.out.cap
    have hn := Lib.hid hn
    have A4 := Lib.hid (below_alloc w3 (.cells #[.slice a n c] 23))
    have W4 := Lib.hid (below_of W3.out A4.out)
    have R4 := Lib.hid (hRs.out.below A4.out (Nat.le_refl _))
    have d4 := cell_keep A4.out c4
    have d5 := cell_keep A4.out c5
    have d8 : (w3.alloc (.cells #[.slice a n c] 23)).cell? ⟨w3.heap.size, 0, none⟩ = some (.slice a n c) := by rw [World.cell?_alloc_new]; rfl
    go_wp2_with fail
    clear c4 c5 W3 hRs A4
    generalize hb8 : w3.heap.size = b8 at *
    generalize w3.alloc (.cells #[.slice a n c] 23) = V4 at *
    have CK := Lib.hid (fun u (hu : Below V4.heap.size V4 u) => And.intro (cell_keep hu d4) (And.intro (cell_keep hu d5) (And.intro (cell_keep hu d8) (R4.out.below hu (Nat.le_refl _)))))
    clear d4 d5 d8 hb8
    obtain ⟨i0, hi, hz0, hz1, hz2⟩ := info_parts info_intB
    have hn' : n ≤ 1024 := k5
    have hd1 : 1 ≤ d := by omega
    go_loopw [11, 12] (fun v i wr => ∃ (k : Nat) (p : Option Addr) (cc : Nat), v = .slice p k cc ∧ i = .int .i64 ((k * d : Nat) : Int) ∧ (∀ j, j < k → j * d < n) ∧ k ≤ n ∧ wr.ownsRow V4.heap.size 3 1 (.slice p k cc) k (numsI d k) ∧ Below V4.heap.size V4 wr) (fun _ i _ => n + 64 - (intOf i).toNat)
    case atStart => exact ⟨0, none, 0, rfl, by simp, fun j hj => absurd hj (by omega), Nat.zero_le _, World.ownsRow_nil _ _ _ _, Below.refl _ _⟩
    case round =>
      obtain ⟨k, p, cc, rfl, rfl, hk1, hk2, hrow, hb⟩ := hrel
      obtain ⟨c4, c5, c8, RR⟩ := CK.out wr hb
      obtain ⟨I, hI⟩ := named (k * d)
      rw [← hI.out]
      by_cases hlt : I < n
      · have i1 : (I : Int) < (n : Int) := by omega
        have hk3 : k < n := by
          rcases Nat.lt_or_ge k n with h | h
          · exact h
          · have := Nat.mul_le_mul_left k hd1
            rw [Nat.mul_one, ← hI.out] at this
            omega
        have hrow := Lib.hid hrow
        have hb := Lib.hid hb
        have hI2 : Hid ((I : Int) + (d : Int) = (((k + 1) * d : Nat) : Int)) := Lib.hid (by rw [hI.out, Nat.add_mul, Nat.one_mul]; omega)
        have hk4 : Hid (∀ j, j < k + 1 → j * d < n) := Lib.hid (fun j hj => by
          rcases Nat.lt_or_ge j k with h | h
          · exact hk1 j h
          · have : j = k := by omega
            rw [this, ← hI.out]; exact hlt)
        have hIH := Lib.hid hI.out
        clear RR hk1
        go_wp2_with (at_builtin; refine wpList_append_own _ rfl _ _ 42 rfl V4.heap.size 3 i0 (.int .i64 0) 1 8 Try.underlying42 hi hz0 hz1 hz2 rfl (by decide) (.slice p k cc) k (numsI d k) (by rfl) (own_belowB hrow.out (below_alloc wr (.cells #[.int .i64 (I : Int)] 3))) ⟨wr.heap.size, 0, none⟩ 1 1 [.int .i64 (I : Int)] (by rfl) rfl (cell_one_new _ _ _) (by intro u hu; simp only [List.mem_cons, List.not_mem_nil, or_false] at hu; rw [hu]; rfl) (by unfold maxLen; omega) (by omega) (by have := hb.out.size; rw [World.size_alloc]; omega) ?_; intro v' w9 hown9 hgrow9 _; have O9 := Lib.hid hown9; have B9 := Lib.hid ((hb.out.alloc hb.out.size _).grown hgrow9 (by have := hb.out.size; rw [World.size_alloc]; omega) (fun k hk => (World.ownsRow.lt hrow.out k hk).1)); clear hown9 hgrow9; obtain ⟨a2, c2', hv2⟩ : ∃ a2 c2', v' = .slice a2 (k + 1) c2' := (by rcases O9.out.2 with ⟨e1, e0⟩ | ⟨g', cap, cur, e1, _⟩; exact absurd e0 (by omega); exact ⟨_, _, e1⟩); subst hv2; have C8 := (CK.out w9 B9.out).2.2.1)
        refine ⟨⟨k + 1, a2, c2', rfl, ?_, ?_, hk3, ?_, ?_⟩, ?_⟩
        · rw [hI2.out]
        · exact hk4.out
        · rw [numsI_snoc, ← hIH.out]; exact O9.out
        · exact B9.out
        · simp [intOf]; omega
      · have hno : ¬ (I : Int) < (n : Int) := by omega
        have hK1 : Hid (n ≤ k * d) := Lib.hid (by rw [← hI.out]; omega)
        have hK2 := Lib.hid hk1
        have hb := Lib.hid hb
        obtain ⟨nc1, nc2, nc3⟩ := nums_cells hrow
        have nc3 := Lib.hid nc3
        clear hrow RR hlt hI
        obtain ⟨FV, hFV⟩ := named (Value.func (.func 17) #[] #[.pointer (some ⟨w.heap.size, 0, none⟩), .pointer (some ⟨w.heap.size + 1, 0, none⟩)])
        have hFVc := Lib.hid hFV.out
        clear hFVc hFV FV
        have A6 := Lib.hid (below_alloc wr (.cells #[.func (.func 17) #[] #[.pointer (some ⟨w.heap.size, 0, none⟩), .pointer (some ⟨w.heap.size + 1, 0, none⟩)]] 44))
        have d13 : (wr.alloc (.cells #[.func (.func 17) #[] #[.pointer (some ⟨w.heap.size, 0, none⟩), .pointer (some ⟨w.heap.size + 1, 0, none⟩)]] 44)).cell? ⟨wr.heap.size, 0, none⟩ = some (.func (.func 17) #[] #[.pointer (some ⟨w.heap.size, 0, none⟩), .pointer (some ⟨w.heap.size + 1, 0, none⟩)]) := by rw [World.cell?_alloc_new]; rfl
        have d13 := Lib.hid d13
        have W6 := Lib.hid (hb.out.trans (A6.out.mono hb.out.size))
        have FN := Lib.hid (find_nums 20 wr.heap.size b8 at_enters (fun j => ahd (rwAt l (j * d)) key q) (fun j => j * d) (p := p) (n := k) (c := cc) (w := wr.alloc (.cells #[.func (.func 17) #[] #[.pointer (some ⟨w.heap.size, 0, none⟩), .pointer (some ⟨w.heap.size + 1, 0, none⟩)]] 44)) nc1 nc2 (by omega)
          (fun u hu j hj => by
            obtain ⟨bb, e1, e2⟩ := nc3.out j hj
            exact ⟨bb, e1, cell_keep hu (cell_keep A6.out e2)⟩)
          (fun i j hij hj hp => place_anti k3.out (Nat.mul_le_mul_right d hij) (by rw [hn.out]; exact hK2.out j hj) hp)
          (fun u hu j hj => by
            obtain ⟨c4, c5, c8, RR⟩ := CK.out u (W6.out.trans (hu.mono W6.out.size))
            exact at_clo RR (j * d) (hK2.out j hj) key q w.heap.size (w.heap.size + 1) b8 wr.heap.size c4 c5 c8 (cell_keep hu d13.out)))
        clear nc3 A6
        go_upto_region 11 with (go_at_call 19; ((with_reducible refine FN.out.mono ?_); rintro e w7 ⟨m, hm, rfl, hb7⟩))
        have W7 := Lib.hid (W6.out.trans (hb7.mono W6.out.size))
        have e13 := cell_keep hb7 d13.out
        clear hb7 FN d13
        obtain ⟨c4, c5, c8, RR⟩ := CK.out w7 W7.out
        have hmk := hm.1
        have hm := Lib.hid hm
        obtain ⟨M1, hM1⟩ := named (m - 1)
        obtain ⟨F, hF⟩ := named (M1 * d)
        obtain ⟨MD, hMD⟩ := named (m * d)
        obtain ⟨U, hU⟩ := named (min MD n)
        have hM1m : M1 ≤ m ∧ (m = 0 → M1 = 0) ∧ (m ≠ 0 → m = M1 + 1) := by rw [hM1.out]; omega
        have hFn : F ≤ n := by
          rw [hF.out]
          by_cases hm0 : m = 0
          · rw [hM1m.2.1 hm0]; omega
          · exact Nat.le_of_lt (hK2.out M1 (by have := hM1m.2.2 hm0; omega))
        have hMDn : MD ≤ n + 64 := by
          rw [hMD.out]
          by_cases hm0 : m = 0
          · rw [hm0]; omega
          · rw [hM1m.2.2 hm0, Nat.add_mul, Nat.one_mul, ← hF.out]; omega
        have hFMD : F ≤ MD := by rw [hF.out, hMD.out]; exact Nat.mul_le_mul_right d hM1m.1
        have hFU : F ≤ U := by rw [hU.out]; omega
        have hUn : U ≤ n := by rw [hU.out]; omega
        have MX : ∀ (ts : Array TypeId) (t : TypeId) (u : World), (Builtin.max_ ts t #[.int .i64 ((m : Int) - 1), .int .i64 0]).run Try.prog u = .ok (.int .i64 (M1 : Int)) u := by
          intro ts t u
          rw [run_max_int2]
          have e : (if (0 : Int) > (m : Int) - 1 then (0 : Int) else (m : Int) - 1) = (M1 : Int) := by rw [hM1.out]; split <;> omega
          rw [e]
        have MN : ∀ (ts : Array TypeId) (t : TypeId) (u : World), (Builtin.min_ ts t #[.int .i64 (MD : Int), .int .i64 (n : Int)]).run Try.prog u = .ok (.int .i64 (U : Int)) u := by
          intro ts t u
          rw [run_min_int2]
          have e : (if (n : Int) < (MD : Int) then (n : Int) else (MD : Int)) = (U : Int) := by rw [hU.out]; split <;> omega
          rw [e]
        have hm1024 : m ≤ 1024 := by omega
        have w2h : Hid (IntKind.i64.wrap (F : Int) = (F : Int)) := Lib.hid (wrapi_nat F (by omega))
        have w3h : Hid (IntKind.i64.wrap (MD : Int) = (MD : Int)) := Lib.hid (wrapi_nat MD (by omega))
        have w1 : wrap64 ((m : Int) - 1) = (m : Int) - 1 := wrap64_small _ (by omega) (by omega)
        have w2 : wrap64 (F : Int) = (F : Int) := wrap64_small _ (by omega) (by omega)
        have w3 : wrap64 (MD : Int) = (MD : Int) := wrap64_small _ (by omega) (by omega)
        have w1b : IntKind.i64.wrap ((m : Int) - 1) = (m : Int) - 1 := wrapi_small _ (by omega) (by omega)
        have pF : (M1 : Int) * (d : Int) = (F : Int) := by rw [hF.out, Int.natCast_mul]
        have pM : (m : Int) * (d : Int) = (MD : Int) := by rw [hMD.out, Int.natCast_mul]
        have FC : Hid (F = (m - 1) * d) := Lib.hid (by rw [hF.out, hM1.out])
        have UC : Hid (U = min (m * d) n) := Lib.hid (by rw [hU.out, hMD.out])
        clear hM1m hM1 hF hMD hU hFMD hMDn
        have W8 := Lib.hid W7.out.drew
        have w2b := w2h.out
        have w3b := w3h.out
        refine wp_region_held_drew (S := (fun v => v.cell? ⟨b8, 0, none⟩ = some (.slice a n c))) (by kernel_rfl) (c8) (fun hHeld => ?_)
        refine held_take (i := 0) (v := ?_) rfl (by kernel_rfl) (by kernel_rfl) (by kernel_rfl) (fun _ _ _ h => h) (by rfl) (fun w hSw => ?_) (by assumption) ?_; rotate_left 1; focus (((try dsimp only at hSw); first | (go_simp; done) | (go_simp; with_reducible rfl)))
        try simp only [Act.put, List.setIfInBounds_toArray, List.set_cons_zero, List.set_cons_succ]
        refine held_take (i := 1) (v := ?_) rfl (by kernel_rfl) (by kernel_rfl) (by kernel_rfl) (fun _ _ _ h => h) (by rfl) (fun w hSw => ?_) (by assumption) ?_; rotate_left 1; focus (((try dsimp only at hSw); first | (go_simp; done) | (go_simp; with_reducible rfl)))
        try simp only [Act.put, List.setIfInBounds_toArray, List.set_cons_zero, List.set_cons_succ]
        refine held_take (i := 2) (v := ?_) rfl (by kernel_rfl) (by kernel_rfl) (by kernel_rfl) (fun _ _ _ h => h) (by rfl) (fun w hSw => ?_) (by assumption) ?_; rotate_left 1; focus (((try dsimp only at hSw); first | (go_simp; done) | (go_simp; with_reducible rfl)))
        try simp only [Act.put, List.setIfInBounds_toArray, List.set_cons_zero, List.set_cons_succ]
        refine held_take (i := 3) (v := ?_) rfl (by kernel_rfl) (by kernel_rfl) (by kernel_rfl) (fun _ _ _ h => h) (by rfl) (fun w hSw => ?_) (by assumption) ?_; rotate_left 1; focus (((try dsimp only at hSw); first | (go_simp; done) | (go_simp; with_reducible rfl)))
        try simp only [Act.put, List.setIfInBounds_toArray, List.set_cons_zero, List.set_cons_succ]
        refine held_take (i := 4) (v := ?_) rfl (by kernel_rfl) (by kernel_rfl) (by kernel_rfl) (fun _ _ _ h => h) (by rfl) (fun w hSw => ?_) (by assumption) ?_; rotate_left 1; focus (((try dsimp only at hSw); first | (go_simp; done) | (go_simp; with_reducible rfl)))
        try simp only [Act.put, List.setIfInBounds_toArray, List.set_cons_zero, List.set_cons_succ]
        refine held_take (i := 5) (v := ?_) rfl (by kernel_rfl) (by kernel_rfl) (by kernel_rfl) (fun _ _ _ h => h) (by rfl) (fun w hSw => ?_) (by assumption) ?_; rotate_left 1; focus (((try dsimp only at hSw); first | (go_simp; done) | (go_simp; with_reducible rfl)))
        try simp only [Act.put, List.setIfInBounds_toArray, List.set_cons_zero, List.set_cons_succ]
        refine held_take (i := 6) (v := ?_) rfl (by kernel_rfl) (by kernel_rfl) (by kernel_rfl) (fun _ _ _ h => h) (by rfl) (fun w hSw => ?_) (by assumption) ?_; rotate_left 1; focus (((try dsimp only at hSw); first | (go_simp; done) | (go_simp; with_reducible rfl)))
        try simp only [Act.put, List.setIfInBounds_toArray, List.set_cons_zero, List.set_cons_succ]
        refine held_take (i := 7) (v := ?_) rfl (by kernel_rfl) (by kernel_rfl) (by kernel_rfl) (fun _ _ _ h => h) (by rfl) (fun w hSw => ?_) (by assumption) ?_; rotate_left 1; focus (((try dsimp only at hSw); first | (go_simp; done) | (go_simp; with_reducible rfl)))
        try simp only [Act.put, List.setIfInBounds_toArray, List.set_cons_zero, List.set_cons_succ]
        refine held_take (i := 8) (v := ?_) rfl (by kernel_rfl) (by kernel_rfl) (by kernel_rfl) (fun _ _ _ h => h) (by rfl) (fun w hSw => ?_) (by assumption) ?_; rotate_left 1; focus (((try dsimp only at hSw); first | (go_simp; done) | (go_simp; with_reducible rfl)))
        try simp only [Act.put, List.setIfInBounds_toArray, List.set_cons_zero, List.set_cons_succ]
        refine held_take (i := 9) (v := ?_) rfl (by kernel_rfl) (by kernel_rfl) (by kernel_rfl) (fun _ _ _ h => h) (by rfl) (fun w hSw => ?_) (by assumption) ?_; rotate_left 1; focus (((try dsimp only at hSw); first | (go_simp; done) | (go_simp; with_reducible rfl)))
        try simp only [Act.put, List.setIfInBounds_toArray, List.set_cons_zero, List.set_cons_succ]
        refine held_take (i := 10) (v := ?_) rfl (by kernel_rfl) (by kernel_rfl) (by kernel_rfl) (fun _ _ _ h => h) (by rfl) (fun w hSw => ?_) (by assumption) ?_; rotate_left 1; focus (((try dsimp only at hSw); first | (go_simp; done) | (go_simp; with_reducible rfl)))
        try simp only [Act.put, List.setIfInBounds_toArray, List.set_cons_zero, List.set_cons_succ]
        refine held_take (i := 11) (v := ?_) rfl (by kernel_rfl) (by kernel_rfl) (by kernel_rfl) (fun _ _ _ h => h) (by rfl) (fun w hSw => ?_) (by assumption) ?_; rotate_left 1; focus (((try dsimp only at hSw); first | (go_simp; done) | (go_simp; with_reducible rfl)))
        try simp only [Act.put, List.setIfInBounds_toArray, List.set_cons_zero, List.set_cons_succ]
        refine held_take (i := 12) (v := ?_) rfl (by kernel_rfl) (by kernel_rfl) (by kernel_rfl) (fun _ _ _ h => h) (by rfl) (fun w hSw => ?_) (by assumption) ?_; rotate_left 1; focus (((try dsimp only at hSw); first | (go_simp; done) | (go_simp; with_reducible rfl)))
        try simp only [Act.put, List.setIfInBounds_toArray, List.set_cons_zero, List.set_cons_succ]
        refine wpAnyH_done (by kernel_rfl) ?_ _
        clear MX MN pF pM w1 w2 w3 w1b w2b w3b
        have SM := slr_mid a n c F U hFU (by omega)
        have RM := (CK.out w7.drew.drew W8.out.drew).2.2.2.mid hFU hUn
        have FR := Lib.hid (find_rows 17 w.heap.size (w.heap.size + 1) ahead_enters (fun j => ahd (rwAt l (F + j)) key q) RM (by omega)
          (fun i j hij hj hp => place_anti k3.out (Nat.add_le_add_left hij F) (by rw [hn.out]; omega) hp)
          (fun u hu j v hv => by
            obtain ⟨c4, c5, _, _⟩ := CK.out u (W8.out.drew.trans (hu.mono W8.out.drew.size))
            have hv2 : l[F + j]? = some v := by
              rw [List.getElem?_drop, List.getElem?_take] at hv
              split at hv
              · exact hv
              · cases hv
            show Calls _ _ _ u fun e u' => e = .returned (.bool (ahd (rwAt l (F + j)) key q)) ∧ Below u.heap.size u u'
            rw [rwAt_some hv2]
            exact ahead_clo v key q _ _ u c4 c5))
        have PL : Hid (∀ r, Cut (U - F) (fun j => ahd (rwAt l (F + j)) key q) r → F + r = plc l key q) := Lib.hid (fun r hr => seek_at k3.out hd1 (by rw [hn.out]; exact hK1.out) (fun j hj => by rw [hn.out]; exact hK2.out j hj) hm.out FC.out (by rw [hn.out]; exact UC.out) hr)
        obtain ⟨ZA, hZA⟩ := named (fromA a c F)
        obtain ⟨ZN, hZN⟩ := named (U - F)
        obtain ⟨ZC, hZC⟩ := named (c - F)
        rw [← hZA.out, ← hZN.out, ← hZC.out] at SM FR
        have hZU : F + ZN = U := by rw [hZN.out]; omega
        rw [← hZN.out] at PL
        clear RM hZN hZC hZA
        go_upto_region 12 with fail
        refine wp_region_held_drew (S := (fun v => (v.cell? ⟨b8, 0, none⟩ = some (.slice a n c) ∧ v.cell? ⟨wr.heap.size, 0, none⟩ = some (.func (.func 17) #[] #[.pointer (some ⟨w.heap.size, 0, none⟩), .pointer (some ⟨w.heap.size + 1, 0, none⟩)])) ∧ Hid (Below V4.heap.size V4 v))) (by kernel_rfl) (⟨⟨c8, e13⟩, Lib.hid W8.out.drew⟩) (fun hHeld => ?_)
        refine held_take (i := 0) (v := ?_) rfl (by kernel_rfl) (by kernel_rfl) (by kernel_rfl) (fun _ _ _ h => h) (by rfl) (fun w hSw => ?_) (by assumption) ?_; rotate_left 1; focus (((try dsimp only at hSw); first | (go_simp; done) | (go_simp; with_reducible rfl)))
        try simp only [Act.put, List.setIfInBounds_toArray, List.set_cons_zero, List.set_cons_succ]
        refine held_take (i := 1) (v := ?_) rfl (by kernel_rfl) (by kernel_rfl) (by kernel_rfl) (fun _ _ _ h => h) (by rfl) (fun w hSw => ?_) (by assumption) ?_; rotate_left 1; focus (((try dsimp only at hSw); first | (go_simp; done) | (go_simp; with_reducible rfl)))
        try simp only [Act.put, List.setIfInBounds_toArray, List.set_cons_zero, List.set_cons_succ]
        refine held_take (i := 2) (v := ?_) rfl (by kernel_rfl) (by kernel_rfl) (by kernel_rfl) (fun _ _ _ h => h) (by rfl) (fun w hSw => ?_) (by assumption) ?_; rotate_left 1; focus (((try dsimp only at hSw); first | (go_simp; done) | (go_simp; with_reducible rfl)))
        try simp only [Act.put, List.setIfInBounds_toArray, List.set_cons_zero, List.set_cons_succ]
        refine held_take (i := 3) (v := ?_) rfl (by kernel_rfl) (by kernel_rfl) (by kernel_rfl) (fun _ _ _ h => h) (by rfl) (fun w hSw => ?_) (by assumption) ?_; rotate_left 1; focus (((try dsimp only at hSw); first | (go_simp; done) | (go_simp; with_reducible rfl)))
        try simp only [Act.put, List.setIfInBounds_toArray, List.set_cons_zero, List.set_cons_succ]
        refine held_take (i := 4) (v := ?_) rfl (by kernel_rfl) (by kernel_rfl) (by kernel_rfl) (fun _ _ _ h => h) (by rfl) (fun w hSw => ?_) (by assumption) ?_; rotate_left 1; focus (((try dsimp only at hSw); first | (go_simp; done) | (go_simp; with_reducible rfl)))
        try simp only [Act.put, List.setIfInBounds_toArray, List.set_cons_zero, List.set_cons_succ]
        refine held_take (i := 5) (v := ?_) rfl (by kernel_rfl) (by kernel_rfl) (by kernel_rfl) (fun _ _ _ h => h) (by rfl) (fun w hSw => ?_) (by assumption) ?_; rotate_left 1; focus (((try dsimp only at hSw); first | (go_simp; done) | (go_simp; with_reducible rfl)))
        try simp only [Act.put, List.setIfInBounds_toArray, List.set_cons_zero, List.set_cons_succ]
        refine held_take (i := 6) (v := ?_) rfl (by kernel_rfl) (by kernel_rfl) (by kernel_rfl) (fun _ _ _ h => h) (by rfl) (fun w hSw => ?_) (by assumption) ?_; rotate_left 1; focus (((try dsimp only at hSw); first | (go_simp; done) | (go_simp; with_reducible rfl)))
        try simp only [Act.put, List.setIfInBounds_toArray, List.set_cons_zero, List.set_cons_succ]
        refine held_call (i := 7) (by kernel_rfl) rfl (by rfl) (fun K hK => ?_)
        go_simp
        (go_at_call 21; ((with_reducible refine FR.out.mono ?_); rintro e u8 ⟨r, hr, rfl, hb8⟩))
        have W9 := Lib.hid (W8.out.drew.trans (hb8.mono W8.out.drew.size))
        have hb8 := Lib.hid hb8
        have hFr : F + r ≤ n := by have := hr.1; omega
        have hpl := Lib.hid (PL.out r hr)
        have SF := slr_from a n c (F + r) hFr ((F : Int) + (r : Int)) (by omega)
        have w4h := Lib.hid (wrapi_small ((F : Int) + (r : Int)) (by omega) (by omega))
        have w4 : wrap64 ((F : Int) + (r : Int)) = (F : Int) + (r : Int) := wrap64_small _ (by omega) (by omega)
        obtain ⟨QA, hQA⟩ := named (fromA a c (F + r))
        obtain ⟨QN, hQN⟩ := named (n - (F + r))
        obtain ⟨QC, hQC⟩ := named (c - (F + r))
        rw [← hQA.out, ← hQN.out, ← hQC.out] at SF
        have w4b := w4h.out
        refine hK.out _ _ (⟨⟨cell_keep hb8.out c8, cell_keep hb8.out e13⟩, W9⟩) (fun hHeld => ?_)
        try simp only [Act.put, List.setIfInBounds_toArray, List.set_cons_zero, List.set_cons_succ]
        refine held_take (i := 8) (v := ?_) rfl (by kernel_rfl) (by kernel_rfl) (by kernel_rfl) (fun _ _ _ h => h) (by rfl) (fun w hSw => ?_) (by assumption) ?_; rotate_left 1; focus (((try dsimp only at hSw); first | (go_simp; done) | (go_simp; with_reducible rfl)))
        try simp only [Act.put, List.setIfInBounds_toArray, List.set_cons_zero, List.set_cons_succ]
        refine held_take (i := 9) (v := ?_) rfl (by kernel_rfl) (by kernel_rfl) (by kernel_rfl) (fun _ _ _ h => h) (by rfl) (fun w hSw => ?_) (by assumption) ?_; rotate_left 1; focus (((try dsimp only at hSw); first | (go_simp; done) | (go_simp; with_reducible rfl)))
        try simp only [Act.put, List.setIfInBounds_toArray, List.set_cons_zero, List.set_cons_succ]
        refine held_take (i := 10) (v := ?_) rfl (by kernel_rfl) (by kernel_rfl) (by kernel_rfl) (fun _ _ _ h => h) (by rfl) (fun w hSw => ?_) (by assumption) ?_; rotate_left 1; focus (((try dsimp only at hSw); first | (go_simp; done) | (go_simp; with_reducible rfl)))
        try simp only [Act.put, List.setIfInBounds_toArray, List.set_cons_zero, List.set_cons_succ]
        refine held_take (i := 11) (v := ?_) rfl (by kernel_rfl) (by kernel_rfl) (by kernel_rfl) (fun _ _ _ h => h) (by rfl) (fun w hSw => ?_) (by assumption) ?_; rotate_left 1; focus (((try dsimp only at hSw); first | (go_simp; done) | (go_simp; with_reducible rfl)))
        try simp only [Act.put, List.setIfInBounds_toArray, List.set_cons_zero, List.set_cons_succ]
        refine wpAnyH_done (by kernel_rfl) ?_ _
        go_wp2_with fail
        go_returns
        refine SD.out _ _ ⟨QA, QC, b, 0 + (F + r) * 4, ?_, ?_, ?_⟩
        · rw [← hpl.out, ← hQN.out]; rfl
        · rw [← hpl.out, hQA.out, hQC.out]
          exact (CK.out u8 W9.out).2.2.2.from hFr
        · exact W4.out.trans (W9.out.mono W4.out.size)
  · have W3 := Lib.hid (below_of W0.out hw)
    have hno := Lib.hid hno
    clear hw
    go_wp2_with fail
    go_returns
    exact .inr ⟨hno.out, rfl, below_of W3.out (below_alloc _ _)⟩
end Go.Proofs.Ytnmlifagchdphaa
/-
  What Build has made: a block, or nothing. No model's run in this text. No condition.
-/
namespace Go.Proofs.Ytnmlifagchdphaa
set_option maxRecDepth 100000
open Go.RowKit
theorem buildB_err {l : List Rw} {d : Int} (h : (buildB l d).2 ≠ 0) : (buildB l d).1 = [] := by
  unfold buildB at h ⊢
  split
  · rfl
  · rename_i h1
    rw [if_neg h1] at h
    split at h
    · rename_i h2; rw [if_pos h2]
    · exact absurd rfl h
theorem buildB_ok {l : List Rw} {d : Int} (h : (buildB l d).2 = 0) : chkA l d = 0 ∧ (blkB d.toNat l).length ≤ 65536 ∧ (buildB l d).1 = blkB d.toNat l := by
  unfold buildB at h ⊢
  by_cases h1 : chkA l d = 0
  · rw [if_neg (by simpa using h1)] at h ⊢
    split at h
    · cases h
    · rename_i h2; rw [if_neg h2]; exact ⟨h1, by omega, rfl⟩
  · rw [if_pos h1] at h
    exact absurd h h1
theorem buildB_isB' {l : List Rw} {d : Int} (h : (buildB l d).2 = 0) : ∃ D : Nat, d = (D : Int) ∧ IsB (buildB l d).1 l D := by
  obtain ⟨h1, h2, h3⟩ := buildB_ok h
  obtain ⟨k1, _⟩ := chkA_ok h1
  refine ⟨d.toNat, by omega, ?_, h3, by rw [h3]; exact h2⟩
  rw [show ((d.toNat : Nat) : Int) = d by omega]
  exact h1
theorem SeekD.yes {L : List UInt8} {l : List Rw} {D q : Nat} {k : ByteArray} {w w' : World} {e : Ending} (h : SeekD L k q w e w') (hB : IsB L l D) : ∃ a c b o, e = .returned (.tuple #[.slice a (l.length - plc l k q) c, .int .i64 0]) ∧ Rs a (l.length - plc l k q) c b o (l.drop (plc l k q)) w' ∧ Below w.heap.size w w' := by
  rcases h with ⟨l', d', a, c, b, o, h1, h2⟩ | ⟨hno, _⟩
  · obtain ⟨rfl, rfl⟩ := isB_one hB h1
    exact ⟨a, c, b, o, h2⟩
  · exact absurd hB (hno l D)
theorem RowsD.yes {L : List UInt8} {l : List Rw} {D : Nat} {w w' : World} {e : Ending} (h : RowsD L w e w') (hB : IsB L l D) : ∃ a c b, e = .returned (.tuple #[.slice a l.length c, .int .i64 0]) ∧ Rs a l.length c b 0 l w' ∧ Below w.heap.size w w' := by
  rcases h with ⟨l', d', a, c, b, h1, h2, h3, _, h4⟩ | ⟨hno, _⟩
  · obtain ⟨rfl, rfl⟩ := isB_one hB h1
    exact ⟨a, c, b, h2, h3, h4⟩
  · exact absurd hB (hno l D)
end Go.Proofs.Ytnmlifagchdphaa
/-
  Plain mathematics of the document's Rows: what it reads without a check, and what Build says of it. No model's run in this text. No condition.
-/
namespace Go.Proofs.Ytnmlifagchdphaa
set_option maxRecDepth 100000
open Go.RowKit
/-- The row with which bytes begin, behind a key, as the document reads it, and what is behind it. -/
def rdX (s p : List UInt8) : Option (Rw × List UInt8) :=
  let a := Code.rd 0 s
  if a.2.2 ≠ 0 ∨ p.length < a.1 then none else
  let s1 := s.drop a.2.1
  let f := Code.rdField s1 520
  if f.2.2 ≠ 0 then none else
  let s2 := s1.drop f.2.1
  let q := Code.rd 0 s2
  if q.2.2 ≠ 0 then none else
  match s2.drop q.2.1 with
  | [] => none
  | k :: s3 =>
    let v := Code.rdField s3 2048
    if k.toNat = 1 then
      if v.2.2 ≠ 0 then none else
      some (⟨⟨(p.take a.1 ++ f.1).toArray⟩, q.1, (k.toNat : Int), ⟨v.1.toArray⟩⟩, s3.drop v.2.1)
    else
      some (⟨⟨(p.take a.1 ++ f.1).toArray⟩, q.1, (k.toNat : Int), ⟨#[]⟩⟩, s3)
theorem rdX_cut {s p t : List UInt8} {x : Rw} (h : cutX s p = some (x, t)) : rdX s p = some (x, t) := by
  unfold cutX at h
  unfold rdX
  simp only at h ⊢
  split at h
  · cases h
  rename_i h1
  rw [if_neg h1]
  split at h
  · cases h
  rename_i h2
  rw [if_neg (fun e => h2 (.inl e))]
  split at h
  · cases h
  rename_i h3
  rw [if_neg h3]
  split at h
  · cases h
  rename_i k s3 h4
  simp only [h4]
  split at h
  · rename_i h5
    rw [if_pos h5]
    split at h
    · cases h
    rename_i h6
    rw [if_neg h6]
    split at h
    · cases h
    · exact h
  · rename_i h5
    rw [if_neg h5]
    split at h
    · cases h
    · exact h
/-- What is read behind the empty key is read behind any. -/
theorem rdX_nil {s t : List UInt8} {x : Rw} (h : rdX s [] = some (x, t)) (p : List UInt8) : rdX s p = some (x, t) := by
  unfold rdX at h ⊢
  simp only at h ⊢
  by_cases h1 : (Code.rd 0 s).2.2 ≠ 0 ∨ ([] : List UInt8).length < (Code.rd 0 s).1
  · rw [if_pos h1] at h; cases h
  · rw [if_neg h1] at h
    have h0 : (Code.rd 0 s).1 = 0 := by
      have : ¬ ([] : List UInt8).length < (Code.rd 0 s).1 := fun e => h1 (.inr e)
      simp only [List.length_nil] at this
      omega
    rw [if_neg (by rw [h0]; intro e; rcases e with e | e; exact h1 (.inl e); omega)]
    rw [h0] at h ⊢
    simpa using h
theorem rdX_enc (p q : List UInt8) (x : Rw) (hx : chkR x = 0) (t : List UInt8) (hp : p.length ≤ 520) (hpq : p = [] ∨ p = q) : rdX (encX p x ++ t) q = some (x, t) := by
  have h := rdX_cut (cutX_enc p x hx t hp)
  rcases hpq with rfl | rfl
  · exact rdX_nil h q
  · exact h
/-- What IsB says of the bytes' parts, whatever the parts are. -/
theorem isB_cut {L : List UInt8} {l : List Rw} {d : Nat} (h : IsB L l d) : 8 ≤ L.length ∧ L.length ≤ 65536 ∧ u4 (L.drop (L.length - 8)) ≤ (L.length - 8) / 4 ∧ u4 (L.drop (L.length - 4)) = d ∧ L.take (L.length - 8 - 4 * u4 (L.drop (L.length - 8))) = bodB d l l.length := by
  have e := ptB_isB h
  unfold ptB at e
  split at e
  · cases e
  rename_i h1
  split at e
  · cases e
  rename_i h2
  simp only [Option.some.injEq, Prod.mk.injEq] at e
  exact ⟨by omega, by omega, by omega, e.2, e.1⟩
/-- The key of the last row. -/
def lastK (l : List Rw) : List UInt8 := if l.length = 0 then [] else (rwAt l (l.length - 1)).key.toList
/-- What stands at the head of the document's loop: the rows that are read, the bytes that are left. -/
def DeR (L rows : List UInt8) (l : List Rw) (r : List UInt8) : Prop :=
  l.length ≤ 1024 ∧ ∀ l' d, IsB L l' d → l'.take l.length = l ∧ rows = bodB d l' l'.length ∧ rows = bodB d l' l.length ++ r
theorem DeR.zero {L rows : List UInt8} (h : ∀ l' d, IsB L l' d → rows = bodB d l' l'.length) : DeR L rows [] rows := ⟨by simp, fun l' d hB => ⟨rfl, h l' d hB, by simp [bodB]⟩⟩
theorem DeR.more {L rows r : List UInt8} {l l' : List Rw} {d : Nat} (h : DeR L rows l r) (hr : r ≠ []) (hB : IsB L l' d) : l.length < l'.length ∧ ∃ y z, l'[l.length]? = some y ∧ l'.take (l.length + 1) = l ++ [y] ∧ chkR y = 0 ∧ rdX r (lastK l) = some (y, z) ∧ rows = bodB d l' (l.length + 1) ++ z := by
  obtain ⟨h1, h2⟩ := h
  obtain ⟨e, h3, h4⟩ := h2 l' d hB
  have hge : l.length ≤ l'.length := by rw [← e, List.length_take]; omega
  have hlt : l.length < l'.length := by
    rcases Nat.lt_or_ge l.length l'.length with h | h
    · exact h
    · have : l'.length = l.length := by omega
      rw [← this, h3] at h4
      have h0 := congrArg List.length h4
      rw [List.length_append] at h0
      exact absurd (List.length_eq_zero_iff.1 (by omega)) hr
  refine ⟨hlt, l'[l.length], ?_⟩
  obtain ⟨z, hz⟩ := bodB_split d l' l.length (l'.length - l.length - 1)
  rw [show l.length + 1 + (l'.length - l.length - 1) = l'.length by omega, ← h3, h4] at hz
  have hz := List.append_cancel_left hz
  have hy : l'[l.length]? = some l'[l.length] := List.getElem?_eq_getElem hlt
  have hv := (chkA_ok hB.1).2.2.2.1
  have hok : chkR l'[l.length] = 0 := hv _ (List.getElem_mem _)
  refine ⟨z, hy, by rw [List.take_add_one, e, hy]; rfl, hok, ?_, ?_⟩
  · rw [hz]
    unfold encI
    rw [rwAt_some hy]
    refine rdX_enc _ _ _ hok z (prvB_le hv hge) ?_
    unfold prvB lastK
    split
    · exact .inl rfl
    · rename_i hm
      have hn0 : l.length ≠ 0 := fun e => hm (by rw [e]; exact Nat.zero_mod d)
      right
      have := rwAt_take l' (n := l.length) (show l.length - 1 < l.length by omega)
      rw [e] at this
      rw [if_neg hn0, this]
  · rw [bodB_snoc, h4, hz, List.append_assoc]
theorem DeR.next {L rows r t : List UInt8} {l : List Rw} {x : Rw} (h : DeR L rows l r) (hr : r ≠ []) (hc : rdX r (lastK l) = some (x, t)) (hn : l.length ≠ 1024) : DeR L rows (l ++ [x]) t := by
  refine ⟨by have := h.1; simp; omega, fun l' d hB => ?_⟩
  obtain ⟨_, y, z, _, h2, _, h4, h5⟩ := h.more hr hB
  rw [hc] at h4
  simp only [Option.some.injEq, Prod.mk.injEq] at h4
  obtain ⟨rfl, rfl⟩ := h4
  exact ⟨by simpa using h2, (h.2 l' d hB).2.1, by simpa using h5⟩
theorem DeR.fail {L rows r : List UInt8} {l : List Rw} (h : DeR L rows l r) (hr : r ≠ []) (hc : rdX r (lastK l) = none ∨ l.length = 1024) (l' : List Rw) (d : Nat) : ¬ IsB L l' d := by
  intro hB
  obtain ⟨h1, y, z, _, _, _, h4, _⟩ := h.more hr hB
  rcases hc with hc | hc
  · rw [hc] at h4; cases h4
  · have := (chkA_ok hB.1).2.2.2.2
    omega
theorem DeR.done {L rows : List UInt8} {l l' : List Rw} {d : Nat} (h : DeR L rows l []) (hB : IsB L l' d) : l' = l := by
  obtain ⟨e, h3, h4⟩ := h.2 l' d hB
  have hge : l.length ≤ l'.length := by rw [← e, List.length_take]; omega
  have := bodB_mono d l' l.length (l'.length - l.length)
  rw [show l.length + (l'.length - l.length) = l'.length by omega, ← h3, h4, List.append_nil] at this
  have hl : l'.length = l.length := by omega
  rw [← e, ← hl, List.take_length]
theorem buildB_of_isB {L : List UInt8} {l : List Rw} {d : Nat} (h : IsB L l d) : buildB l (d : Int) = (L, 0) := by
  obtain ⟨h1, h2, h3⟩ := h
  unfold buildB
  rw [if_neg (by simpa using h1), Int.toNat_natCast, ← h2, if_neg (by omega)]
/-- What Build says behind the loop. -/
theorem DeR.good {L rows : List UInt8} {l : List Rw} {d : Nat} (h1 : (buildB l (d : Int)).2 = 0) (h2 : (buildB l (d : Int)).1 = L) : IsB L l d := by
  obtain ⟨D, hD, hB⟩ := buildB_isB' h1
  rw [h2] at hB
  have : d = D := by omega
  rw [this]
  exact hB
theorem DeR.bad {L rows : List UInt8} {l : List Rw} {d : Nat} (h : DeR L rows l []) (hd : u4 (L.drop (L.length - 4)) = d) (hn : (buildB l (d : Int)).2 ≠ 0 ∨ (buildB l (d : Int)).1 ≠ L) (l' : List Rw) (d' : Nat) : ¬ IsB L l' d' := by
  intro hB
  obtain rfl := h.done hB
  have e := (isB_cut hB).2.2.2.1
  rw [hd] at e
  rw [e, buildB_of_isB hB] at hn
  rcases hn with hn | hn
  · exact hn rfl
  · exact hn rfl
theorem lastK_snoc (l : List Rw) (x : Rw) : lastK (l ++ [x]) = x.key.toList := by
  unfold lastK
  rw [if_neg (by simp), rwAt_some (x := x) (by simp)]
/-- A row that is read leaves fewer bytes, and its key is at most 520 bytes longer than the one ahead. -/
theorem rdX_fit {s p t : List UInt8} {x : Rw} (h : rdX s p = some (x, t)) : t.length < s.length ∧ x.key.toList.length ≤ p.length + 520 := by
  unfold rdX at h
  simp only at h
  split at h
  · cases h
  split at h
  · cases h
  rename_i h2
  split at h
  · cases h
  split at h
  · cases h
  rename_i k s3 h4
  have hl := congrArg List.length h4
  simp only [List.length_drop, List.length_cons] at hl
  have hm := rdField_most (s.drop (Code.rd 0 s).2.1) 520 (by omega)
  split at h
  · split at h
    · cases h
    · simp only [Option.some.injEq, Prod.mk.injEq] at h
      obtain ⟨rfl, rfl⟩ := h
      refine ⟨by rw [List.length_drop]; omega, ?_⟩
      rw [toL, List.length_append, List.length_take]
      omega
  · simp only [Option.some.injEq, Prod.mk.injEq] at h
    obtain ⟨rfl, rfl⟩ := h
    refine ⟨by omega, ?_⟩
    rw [toL, List.length_append, List.length_take]
    omega
end Go.Proofs.Ytnmlifagchdphaa
