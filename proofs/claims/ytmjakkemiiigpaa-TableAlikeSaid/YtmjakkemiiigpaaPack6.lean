/-
  The contracts of framed and keysOf. Condition: at most 65535 rows.
-/
import Derived.Test.YtmjakkemiiigpaaPack5
import Derived.Maps.AppendAt
import Derived.RangeFuncNested
import Derived.RangeFuncBound
import Derived.RangeFuncCalls
import Derived.RangeFuncLeaves
import Derived.RangeFuncBox
import Derived.Shelf.Abstract
import Derived.Shelf.RegionOpen
import Derived.WalkKit
import Derived.OwnWalkIn
import Derived.TacticsInMore
import Derived.LoopNIn
import Derived.LoopIn
import Derived.RangeFuncWrites
import Derived.Laws.OwnMore
import Derived.OrdersHeld
import Derived.OrdersIn
namespace Go.Proofs.Ytmjakkemiiigpaa
set_option maxRecDepth 100000
open Go.RowKit
/-- What framed answers. -/
def frmR (p : List UInt8) (E : Nat) : List UInt8 × Nat := if E = 0 then putOf p else ([], E)
set_option maxRecDepth 100000 in
set_option maxHeartbeats 2000000 in
theorem framed_any (p : List UInt8) (E : Nat) (hp : p.length ≤ 1048576) (w : World) : Calls Try.prog 21 #[.string ⟨p.toArray⟩, .int .i64 (E : Int)] w fun e w' => e = .returned (.tuple #[.string ⟨(frmR p E).1.toArray⟩, .int .i64 ((frmR p E).2 : Nat)]) ∧ Below w.heap.size w w' := by
  unfold frmR
  have PC : Hid (∀ u, Calls Try.prog 53 #[.string ⟨p.toArray⟩] u fun e w' => e = .returned (.tuple #[.string ⟨(putOf p).1.toArray⟩, .int .i64 ((putOf p).2 : Int)]) ∧ Below u.heap.size u w') := Lib.hid (fun u => by have := put_any ⟨p.toArray⟩ (by rw [ofList_size]; omega) u; rwa [data_toL] at this)
  by_cases h : E = 0
  · subst h
    rw [if_pos rfl]
    obtain ⟨⟨S, E2⟩, hR⟩ := named (putOf p)
    rw [← hR.out] at PC ⊢
    simp only at PC ⊢
    clear hR
    go_enter Try.func21, Try.ntmps21
    go_wp2_with (go_at_call 53; ((with_reducible refine (PC.out _).mono ?_); rintro e w1 ⟨rfl, hb1⟩))
    go_returns
    exact ⟨rfl, hb1⟩
  · rw [if_neg h]
    have k1 : ((E : Int) != 0) = true := by rw [bne_iff_ne]; omega
    have k2 : ((E : Int) == 0) = false := by rw [beq_eq_false_iff_ne]; omega
    have k3 : (E == 0) = false := by rw [beq_eq_false_iff_ne]; exact h
    replace h := Lib.hid h
    go_enter Try.func21, Try.ntmps21
    go_wp2_with fail
    go_returns
    exact ⟨rfl, Below.refl _ _⟩
/-- The first j rows' keys, each once. -/
def keysN (l : List Rw) : Nat → List ByteArray
  | 0 => []
  | j + 1 => keysN l j ++ (if j = 0 ∨ (rwAt l j).key ≠ (rwAt l (j - 1)).key then [(rwAt l j).key] else [])
def keysT (l : List Rw) : List ByteArray := keysN l l.length
theorem keysN_len (l : List Rw) : ∀ j, (keysN l j).length ≤ j
  | 0 => Nat.le_refl _
  | j + 1 => by
    have := keysN_len l j
    rw [keysN, List.length_append]
    split <;> simp <;> omega
set_option maxRecDepth 100000 in
set_option maxHeartbeats 8000000 in
theorem keysOf_any {a : Option Addr} {n c b o : Nat} {l : List Rw} {w : World} (h : Rs a n c b o l w) (hn : n ≤ 65535) :
    Calls Try.prog 23 #[.slice a n c] w fun e w' => ∃ v, e = .returned v ∧ w'.ownsRow w.heap.size 9 1 v (keysT l).length ((keysT l).map fun s => .string s) ∧ Below w.heap.size w w' := by
  have m0 := h.most
  have q0 := h.cap
  have hlen := Lib.hid h.len
  have h := Lib.hid h
  obtain ⟨i0, hi, hz0, hz1, hz2⟩ := info_parts infoS
  go_enter Try.func23, Try.ntmps23
  go_wp2_with fail
  go_loopw [3, 8] (fun s d wr => ∃ j : Nat, j ≤ n ∧ d = .int .i64 (j : Int) ∧ Hid (wr.ownsRow w.heap.size 9 1 s (keysN l j).length ((keysN l j).map fun s => .string s)) ∧ Hid (Below w.heap.size w wr)) (fun _ d _ => n - (intOf d).toNat)
  case atStart => exact ⟨0, Nat.zero_le _, rfl, Lib.hid (World.ownsRow_nil _ _ _ _), Lib.hid (Below.refl _ _)⟩
  case round =>
    obtain ⟨j, hj, rfl, hrow, hb⟩ := hrel
    by_cases hlt : j < n
    · obtain ⟨x, hx, rfl, x0, x1, x2, x3⟩ := (h.out.below hb.out (Nat.le_refl _)).at4 hlt
      have hxr := rwAt_some hx
      have i0' : (j : Int) < (n : Int) := by omega
      have X0 := Lib.hid (RowAt.new x wr)
      have hb1 := below_alloc wr (.cells #[.string x.key, .int .u64 (x.seq : Int), .int .i64 x.kind, .string x.val] 39)
      have R1 := Lib.hid (h.out.below (below_of hb.out hb1) (Nat.le_refl _))
      have O1 := Lib.hid (own_belowB hrow.out hb1)
      have W1 := Lib.hid (below_of hb.out hb1)
      clear hb1
      have hkn := keysN_len l j
      have hks : keysN l (j + 1) = keysN l j ++ (if j = 0 ∨ x.key ≠ (rwAt l (j - 1)).key then [x.key] else []) := by rw [keysN, hxr]
      obtain ⟨xk, xs, xi, xv⟩ := x
      simp only at x0 x1 x2 x3 X0 R1 O1 W1 hks
      clear hx hxr
      replace hks := Lib.hid hks
      go_upto_region 5 with fail
      generalize wr.alloc (.cells #[.string xk, .int .u64 (xs : Int), .int .i64 xi, .string xv] 39) = w1 at *
      --WAYS
      have X1 : Hid (RowAt wr.heap.size ⟨xk, xs, xi, xv⟩ w1) := X0
      clear X0
      clear x0 x1 x2 x3
      obtain ⟨KL, hKL⟩ := named (keysN l j)
      rw [← hKL.out] at hkn hks O1
      clear hrow
      by_cases hj0 : j = 0
      · have k1 : ((j : Int) == 0) = true := by rw [beq_iff_eq]; omega
        have hks : Hid (keysN l (j + 1) = KL ++ [xk]) := Lib.hid (by rw [hks.out, if_pos (.inl hj0)])
        replace hj0 := Lib.hid hj0
        obtain ⟨⟨c0, c1, c2, c3⟩, _⟩ := X1.out.cells
        simp only at c0
        clear c1 c2 c3
        refine wp_region_held_drew (S := (fun v => v.cell? ⟨wr.heap.size, 0, none⟩ = some (.string xk))) (by kernel_rfl) (c0) (fun hHeld => ?_)
        refine held_take (i := 0) (v := ?_) rfl (by kernel_rfl) (by kernel_rfl) (by kernel_rfl) (fun _ _ _ h => h) (by rfl) (fun w hSw => ?_) (by assumption) ?_; rotate_left 1; focus (((try dsimp only at hSw); first | (go_simp; done) | (go_simp; with_reducible rfl)))
        try simp only [Act.put, List.setIfInBounds_toArray, List.set_cons_zero, List.set_cons_succ]
        refine held_take (i := 1) (v := ?_) rfl (by kernel_rfl) (by kernel_rfl) (by kernel_rfl) (fun _ _ _ h => h) (by rfl) (fun w hSw => ?_) (by assumption) ?_; rotate_left 1; focus (((try dsimp only at hSw); first | (go_simp; done) | (go_simp; with_reducible rfl)))
        try simp only [Act.put, List.setIfInBounds_toArray, List.set_cons_zero, List.set_cons_succ]
        refine held_take (i := 2) (v := ?_) rfl (by kernel_rfl) (by kernel_rfl) (by kernel_rfl) (fun _ _ _ h => h) (by rfl) (fun w hSw => ?_) (by assumption) ?_; rotate_left 1; focus (((try dsimp only at hSw); first | (go_simp; done) | (go_simp; with_reducible rfl)))
        try simp only [Act.put, List.setIfInBounds_toArray, List.set_cons_zero, List.set_cons_succ]
        refine held_skip (i := 3) rfl (by kernel_rfl) (by kernel_rfl) (by kernel_rfl) (fun _ _ _ h => h) (by rfl) (by assumption) ?_
        try simp only [Act.put, List.setIfInBounds_toArray, List.set_cons_zero, List.set_cons_succ]
        refine held_skip (i := 4) rfl (by kernel_rfl) (by kernel_rfl) (by kernel_rfl) (fun _ _ _ h => h) (by rfl) (by assumption) ?_
        try simp only [Act.put, List.setIfInBounds_toArray, List.set_cons_zero, List.set_cons_succ]
        refine held_skip (i := 5) rfl (by kernel_rfl) (by kernel_rfl) (by kernel_rfl) (fun _ _ _ h => h) (by rfl) (by assumption) ?_
        try simp only [Act.put, List.setIfInBounds_toArray, List.set_cons_zero, List.set_cons_succ]
        refine held_skip (i := 6) rfl (by kernel_rfl) (by kernel_rfl) (by kernel_rfl) (fun _ _ _ h => h) (by rfl) (by assumption) ?_
        try simp only [Act.put, List.setIfInBounds_toArray, List.set_cons_zero, List.set_cons_succ]
        refine held_skip (i := 7) rfl (by kernel_rfl) (by kernel_rfl) (by kernel_rfl) (fun _ _ _ h => h) (by rfl) (by assumption) ?_
        try simp only [Act.put, List.setIfInBounds_toArray, List.set_cons_zero, List.set_cons_succ]
        refine held_skip (i := 8) rfl (by kernel_rfl) (by kernel_rfl) (by kernel_rfl) (fun _ _ _ h => h) (by rfl) (by assumption) ?_
        try simp only [Act.put, List.setIfInBounds_toArray, List.set_cons_zero, List.set_cons_succ]
        refine held_skip (i := 9) rfl (by kernel_rfl) (by kernel_rfl) (by kernel_rfl) (fun _ _ _ h => h) (by rfl) (by assumption) ?_
        try simp only [Act.put, List.setIfInBounds_toArray, List.set_cons_zero, List.set_cons_succ]
        refine held_skip (i := 10) rfl (by kernel_rfl) (by kernel_rfl) (by kernel_rfl) (fun _ _ _ h => h) (by rfl) (by assumption) ?_
        try simp only [Act.put, List.setIfInBounds_toArray, List.set_cons_zero, List.set_cons_succ]
        refine held_skip (i := 11) rfl (by kernel_rfl) (by kernel_rfl) (by kernel_rfl) (fun _ _ _ h => h) (by rfl) (by assumption) ?_
        try simp only [Act.put, List.setIfInBounds_toArray, List.set_cons_zero, List.set_cons_succ]
        refine held_take (i := 12) (v := ?_) rfl (by kernel_rfl) (by kernel_rfl) (by kernel_rfl) (fun _ _ _ h => h) (by rfl) (fun w hSw => ?_) (by assumption) ?_; rotate_left 1; focus (((try dsimp only at hSw); first | (go_simp; done) | (go_simp; with_reducible rfl)))
        try simp only [Act.put, List.setIfInBounds_toArray, List.set_cons_zero, List.set_cons_succ]
        refine wpAnyH_done (by kernel_rfl) ?_ _
        clear hHeld
        have W2 := Lib.hid W1.out.drew
        have X2 := Lib.hid (X1.out.below (Below.refl _ w1).drew)
        have O2 := Lib.hid (own_belowB O1.out (Below.refl _ w1).drew)
        clear X1 O1 R1 W1 c0
        generalize w1.drew = w2 at *
        obtain ⟨⟨c0, _, _, _⟩, _⟩ := X2.out.cells
        have hb3 := below_alloc w2 (.cells #[.string xk] 9)
        have O3 := Lib.hid (own_belowB O2.out hb3)
        have W3 := Lib.hid (W2.out.alloc W2.out.size (.cells #[.string xk] 9))
        clear hb3 O2 X2
        go_wp2_with (at_builtin; refine wpList_append_own_at _ rfl (.tmp 26) (.tmp 29) 58 rfl w.heap.size 9 i0 (.string ⟨#[]⟩) 1 16 Try.underlying58 hi hz0 hz1 hz2 rfl (by decide) u3 KL.length (KL.map fun s => .string s) (by rfl) O3.out ⟨w2.heap.size, 0, none⟩ 1 1 [.string xk] (by rfl) rfl (cell_one_new _ _ _) (by intro u hu; simp only [List.mem_cons, List.not_mem_nil, or_false] at hu; subst hu; rfl) (by unfold maxLen; omega) (by omega) W3.out.size ?_; intro v4 w4 own4 grow4 _ _; have W4 := Lib.hid (W3.out.grown grow4 W3.out.size (fun k hk => (O3.out.lt k hk).1)); have own4 := Lib.hid own4; clear grow4)
        go_roundw
        case rel => exact ⟨j + 1, by omega, by go_num, Lib.hid (by rw [hks.out]; have := own4.out; simpa using this), W4⟩
        case measure => simp [intOf]; omega
      · have k1 : ((j : Int) == 0) = false := by rw [beq_eq_false_iff_ne]; omega
        have k2 : wrap64 ((j : Int) - 1) = (j : Int) - 1 := by unfold wrap64; omega
        have k3 : IntKind.i64.wrap ((j : Int) - 1) = (j : Int) - 1 := by rw [IntKind.wrap_i64]; omega
        have k4 : (1 : Int) ≤ (j : Int) := by omega
        have k5 : 1 ≤ j := by omega
        have k6 : j - 1 < n := by omega
        have k7 : (j : Int) - 1 < (n : Int) := by omega
        have k8 : (0 : Int) ≤ (j : Int) - 1 := by omega
        have k9 : ((j : Int) - 1).toNat = j - 1 := by omega
        obtain ⟨z, hz, _, z0, _, _, _⟩ := R1.out.at4 k6
        have hzr := rwAt_some hz
        have hks1 := hks.out
        rw [hzr] at hks1
        obtain ⟨zk, zs, zi, zv⟩ := z
        simp only at z0 hks1
        clear hz hzr
        by_cases hne : xk.toList = zk.toList
        · have q1 : (xk.toList == zk.toList) = true := by rw [beq_iff_eq]; exact hne
          have hke : xk = zk := bytes_inj hne
          have hks : Hid (keysN l (j + 1) = KL) := Lib.hid (by rw [hks1, if_neg (fun hc => hc.elim hj0 (fun h => h hke)), List.append_nil])
          clear hks1 hne
          replace hke := Lib.hid hke
          obtain ⟨⟨c0, c1, c2, c3⟩, _⟩ := X1.out.cells
          simp only at c0
          clear c1 c2 c3
          refine wp_region_held_drew (S := (fun v => v.cell? ⟨wr.heap.size, 0, none⟩ = some (.string xk) ∧ v.cell? ⟨b, o + (j - 1) * 4, none⟩ = some (.string zk))) (by kernel_rfl) (⟨c0, z0⟩) (fun hHeld => ?_)
          refine held_take (i := 0) (v := ?_) rfl (by kernel_rfl) (by kernel_rfl) (by kernel_rfl) (fun _ _ _ h => h) (by rfl) (fun w hSw => ?_) (by assumption) ?_; rotate_left 1; focus (((try dsimp only at hSw); first | (go_simp; done) | (go_simp; with_reducible rfl)))
          try simp only [Act.put, List.setIfInBounds_toArray, List.set_cons_zero, List.set_cons_succ]
          refine held_take (i := 1) (v := ?_) rfl (by kernel_rfl) (by kernel_rfl) (by kernel_rfl) (fun _ _ _ h => h) (by rfl) (fun w hSw => ?_) (by assumption) ?_; rotate_left 1; focus (((try dsimp only at hSw); first | (go_simp; done) | (go_simp; with_reducible rfl)))
          try simp only [Act.put, List.setIfInBounds_toArray, List.set_cons_zero, List.set_cons_succ]
          refine held_take (i := 2) (v := ?_) rfl (by kernel_rfl) (by kernel_rfl) (by kernel_rfl) (fun _ _ _ h => h) (by rfl) (fun w hSw => ?_) (by assumption) ?_; rotate_left 1; focus (((try dsimp only at hSw); first | (go_simp; done) | (go_simp; with_reducible rfl)))
          try simp only [Act.put, List.setIfInBounds_toArray, List.set_cons_zero, List.set_cons_succ]
          refine held_take (i := 3) (v := ?_) rfl (by kernel_rfl) (by kernel_rfl) (by kernel_rfl) (fun _ _ _ h => h) (by rfl) (fun w hSw => ?_) (by assumption) ?_; rotate_left 1; focus (((try dsimp only at hSw); first | (go_simp; done) | (go_simp; with_reducible rfl)))
          try simp only [Act.put, List.setIfInBounds_toArray, List.set_cons_zero, List.set_cons_succ]
          refine held_take (i := 4) (v := ?_) rfl (by kernel_rfl) (by kernel_rfl) (by kernel_rfl) (fun _ _ _ h => h) (by rfl) (fun w hSw => ?_) (by assumption) ?_; rotate_left 1; focus (((try dsimp only at hSw); first | (go_simp; done) | (go_simp; with_reducible rfl)))
          try simp only [Act.put, List.setIfInBounds_toArray, List.set_cons_zero, List.set_cons_succ]
          refine held_take (i := 5) (v := ?_) rfl (by kernel_rfl) (by kernel_rfl) (by kernel_rfl) (fun _ _ _ h => h) (by rfl) (fun w hSw => ?_) (by assumption) ?_; rotate_left 1; focus (((try dsimp only at hSw); first | (go_simp; done) | (go_simp; with_reducible rfl)))
          try simp only [Act.put, List.setIfInBounds_toArray, List.set_cons_zero, List.set_cons_succ]
          refine held_take (i := 6) (v := ?_) rfl (by kernel_rfl) (by kernel_rfl) (by kernel_rfl) (fun _ _ _ h => h) (by rfl) (fun w hSw => ?_) (by assumption) ?_; rotate_left 1; focus (((try dsimp only at hSw); first | (go_simp; done) | (go_simp; with_reducible rfl)))
          try simp only [Act.put, List.setIfInBounds_toArray, List.set_cons_zero, List.set_cons_succ]
          refine held_take (i := 7) (v := ?_) rfl (by kernel_rfl) (by kernel_rfl) (by kernel_rfl) (fun _ _ _ h => h) (by rfl) (fun w hSw => ?_) (by assumption) ?_; rotate_left 1; focus (((try dsimp only at hSw); first | (go_simp; done) | (go_simp; with_reducible rfl)))
          try simp only [Act.put, List.setIfInBounds_toArray, List.set_cons_zero, List.set_cons_succ]
          refine held_take (i := 8) (v := ?_) rfl (by kernel_rfl) (by kernel_rfl) (by kernel_rfl) (fun _ _ _ h => h) (by rfl) (fun w hSw => ?_) (by assumption) ?_; rotate_left 1; focus (((try dsimp only at hSw); first | (go_simp; done) | (go_simp; with_reducible rfl)))
          try simp only [Act.put, List.setIfInBounds_toArray, List.set_cons_zero, List.set_cons_succ]
          refine held_take (i := 9) (v := ?_) rfl (by kernel_rfl) (by kernel_rfl) (by kernel_rfl) (fun _ _ _ h => h) (by rfl) (fun w hSw => ?_) (by assumption) ?_; rotate_left 1; focus (((try dsimp only at hSw); first | (go_simp; done) | (go_simp; with_reducible rfl)))
          try simp only [Act.put, List.setIfInBounds_toArray, List.set_cons_zero, List.set_cons_succ]
          refine held_take (i := 10) (v := ?_) rfl (by kernel_rfl) (by kernel_rfl) (by kernel_rfl) (fun _ _ _ h => h) (by rfl) (fun w hSw => ?_) (by assumption) ?_; rotate_left 1; focus (((try dsimp only at hSw); first | (go_simp; done) | (go_simp; with_reducible rfl)))
          try simp only [Act.put, List.setIfInBounds_toArray, List.set_cons_zero, List.set_cons_succ]
          refine held_take (i := 11) (v := ?_) rfl (by kernel_rfl) (by kernel_rfl) (by kernel_rfl) (fun _ _ _ h => h) (by rfl) (fun w hSw => ?_) (by assumption) ?_; rotate_left 1; focus (((try dsimp only at hSw); first | (go_simp; done) | (go_simp; with_reducible rfl)))
          try simp only [Act.put, List.setIfInBounds_toArray, List.set_cons_zero, List.set_cons_succ]
          refine held_take (i := 12) (v := ?_) rfl (by kernel_rfl) (by kernel_rfl) (by kernel_rfl) (fun _ _ _ h => h) (by rfl) (fun w hSw => ?_) (by assumption) ?_; rotate_left 1; focus (((try dsimp only at hSw); first | (go_simp; done) | (go_simp; with_reducible rfl)))
          try simp only [Act.put, List.setIfInBounds_toArray, List.set_cons_zero, List.set_cons_succ]
          refine wpAnyH_done (by kernel_rfl) ?_ _
          clear hHeld
          go_wp2_with fail
          go_roundw
          case rel => exact ⟨j + 1, by omega, by go_num, Lib.hid (by rw [hks.out]; exact own_belowB O1.out (Below.refl _ w1).drew), Lib.hid W1.out.drew⟩
          case measure => simp [intOf]; omega
        · have q1 : (xk.toList == zk.toList) = false := by rw [beq_eq_false_iff_ne]; exact hne
          have hke : xk ≠ zk := fun h => hne (by rw [h])
          have hks : Hid (keysN l (j + 1) = KL ++ [xk]) := Lib.hid (by rw [hks1, if_pos (.inr hke)])
          clear hks1 hne
          replace hke := Lib.hid hke
          obtain ⟨⟨c0, c1, c2, c3⟩, _⟩ := X1.out.cells
          simp only at c0
          clear c1 c2 c3
          refine wp_region_held_drew (S := (fun v => v.cell? ⟨wr.heap.size, 0, none⟩ = some (.string xk) ∧ v.cell? ⟨b, o + (j - 1) * 4, none⟩ = some (.string zk))) (by kernel_rfl) (⟨c0, z0⟩) (fun hHeld => ?_)
          refine held_take (i := 0) (v := ?_) rfl (by kernel_rfl) (by kernel_rfl) (by kernel_rfl) (fun _ _ _ h => h) (by rfl) (fun w hSw => ?_) (by assumption) ?_; rotate_left 1; focus (((try dsimp only at hSw); first | (go_simp; done) | (go_simp; with_reducible rfl)))
          try simp only [Act.put, List.setIfInBounds_toArray, List.set_cons_zero, List.set_cons_succ]
          refine held_take (i := 1) (v := ?_) rfl (by kernel_rfl) (by kernel_rfl) (by kernel_rfl) (fun _ _ _ h => h) (by rfl) (fun w hSw => ?_) (by assumption) ?_; rotate_left 1; focus (((try dsimp only at hSw); first | (go_simp; done) | (go_simp; with_reducible rfl)))
          try simp only [Act.put, List.setIfInBounds_toArray, List.set_cons_zero, List.set_cons_succ]
          refine held_take (i := 2) (v := ?_) rfl (by kernel_rfl) (by kernel_rfl) (by kernel_rfl) (fun _ _ _ h => h) (by rfl) (fun w hSw => ?_) (by assumption) ?_; rotate_left 1; focus (((try dsimp only at hSw); first | (go_simp; done) | (go_simp; with_reducible rfl)))
          try simp only [Act.put, List.setIfInBounds_toArray, List.set_cons_zero, List.set_cons_succ]
          refine held_take (i := 3) (v := ?_) rfl (by kernel_rfl) (by kernel_rfl) (by kernel_rfl) (fun _ _ _ h => h) (by rfl) (fun w hSw => ?_) (by assumption) ?_; rotate_left 1; focus (((try dsimp only at hSw); first | (go_simp; done) | (go_simp; with_reducible rfl)))
          try simp only [Act.put, List.setIfInBounds_toArray, List.set_cons_zero, List.set_cons_succ]
          refine held_take (i := 4) (v := ?_) rfl (by kernel_rfl) (by kernel_rfl) (by kernel_rfl) (fun _ _ _ h => h) (by rfl) (fun w hSw => ?_) (by assumption) ?_; rotate_left 1; focus (((try dsimp only at hSw); first | (go_simp; done) | (go_simp; with_reducible rfl)))
          try simp only [Act.put, List.setIfInBounds_toArray, List.set_cons_zero, List.set_cons_succ]
          refine held_take (i := 5) (v := ?_) rfl (by kernel_rfl) (by kernel_rfl) (by kernel_rfl) (fun _ _ _ h => h) (by rfl) (fun w hSw => ?_) (by assumption) ?_; rotate_left 1; focus (((try dsimp only at hSw); first | (go_simp; done) | (go_simp; with_reducible rfl)))
          try simp only [Act.put, List.setIfInBounds_toArray, List.set_cons_zero, List.set_cons_succ]
          refine held_take (i := 6) (v := ?_) rfl (by kernel_rfl) (by kernel_rfl) (by kernel_rfl) (fun _ _ _ h => h) (by rfl) (fun w hSw => ?_) (by assumption) ?_; rotate_left 1; focus (((try dsimp only at hSw); first | (go_simp; done) | (go_simp; with_reducible rfl)))
          try simp only [Act.put, List.setIfInBounds_toArray, List.set_cons_zero, List.set_cons_succ]
          refine held_take (i := 7) (v := ?_) rfl (by kernel_rfl) (by kernel_rfl) (by kernel_rfl) (fun _ _ _ h => h) (by rfl) (fun w hSw => ?_) (by assumption) ?_; rotate_left 1; focus (((try dsimp only at hSw); first | (go_simp; done) | (go_simp; with_reducible rfl)))
          try simp only [Act.put, List.setIfInBounds_toArray, List.set_cons_zero, List.set_cons_succ]
          refine held_take (i := 8) (v := ?_) rfl (by kernel_rfl) (by kernel_rfl) (by kernel_rfl) (fun _ _ _ h => h) (by rfl) (fun w hSw => ?_) (by assumption) ?_; rotate_left 1; focus (((try dsimp only at hSw); first | (go_simp; done) | (go_simp; with_reducible rfl)))
          try simp only [Act.put, List.setIfInBounds_toArray, List.set_cons_zero, List.set_cons_succ]
          refine held_take (i := 9) (v := ?_) rfl (by kernel_rfl) (by kernel_rfl) (by kernel_rfl) (fun _ _ _ h => h) (by rfl) (fun w hSw => ?_) (by assumption) ?_; rotate_left 1; focus (((try dsimp only at hSw); first | (go_simp; done) | (go_simp; with_reducible rfl)))
          try simp only [Act.put, List.setIfInBounds_toArray, List.set_cons_zero, List.set_cons_succ]
          refine held_take (i := 10) (v := ?_) rfl (by kernel_rfl) (by kernel_rfl) (by kernel_rfl) (fun _ _ _ h => h) (by rfl) (fun w hSw => ?_) (by assumption) ?_; rotate_left 1; focus (((try dsimp only at hSw); first | (go_simp; done) | (go_simp; with_reducible rfl)))
          try simp only [Act.put, List.setIfInBounds_toArray, List.set_cons_zero, List.set_cons_succ]
          refine held_take (i := 11) (v := ?_) rfl (by kernel_rfl) (by kernel_rfl) (by kernel_rfl) (fun _ _ _ h => h) (by rfl) (fun w hSw => ?_) (by assumption) ?_; rotate_left 1; focus (((try dsimp only at hSw); first | (go_simp; done) | (go_simp; with_reducible rfl)))
          try simp only [Act.put, List.setIfInBounds_toArray, List.set_cons_zero, List.set_cons_succ]
          refine held_take (i := 12) (v := ?_) rfl (by kernel_rfl) (by kernel_rfl) (by kernel_rfl) (fun _ _ _ h => h) (by rfl) (fun w hSw => ?_) (by assumption) ?_; rotate_left 1; focus (((try dsimp only at hSw); first | (go_simp; done) | (go_simp; with_reducible rfl)))
          try simp only [Act.put, List.setIfInBounds_toArray, List.set_cons_zero, List.set_cons_succ]
          refine wpAnyH_done (by kernel_rfl) ?_ _
          clear hHeld z0
          have W2 := Lib.hid W1.out.drew
          have X2 := Lib.hid (X1.out.below (Below.refl _ w1).drew)
          have O2 := Lib.hid (own_belowB O1.out (Below.refl _ w1).drew)
          clear X1 O1 R1 W1 c0
          generalize w1.drew = w2 at *
          obtain ⟨⟨c0, _, _, _⟩, _⟩ := X2.out.cells
          have hb3 := below_alloc w2 (.cells #[.string xk] 9)
          have O3 := Lib.hid (own_belowB O2.out hb3)
          have W3 := Lib.hid (W2.out.alloc W2.out.size (.cells #[.string xk] 9))
          clear hb3 O2 X2
          go_wp2_with (at_builtin; refine wpList_append_own_at _ rfl (.tmp 26) (.tmp 29) 58 rfl w.heap.size 9 i0 (.string ⟨#[]⟩) 1 16 Try.underlying58 hi hz0 hz1 hz2 rfl (by decide) u3 KL.length (KL.map fun s => .string s) (by rfl) O3.out ⟨w2.heap.size, 0, none⟩ 1 1 [.string xk] (by rfl) rfl (cell_one_new _ _ _) (by intro u hu; simp only [List.mem_cons, List.not_mem_nil, or_false] at hu; subst hu; rfl) (by unfold maxLen; omega) (by omega) W3.out.size ?_; intro v4 w4 own4 grow4 _ _; have W4 := Lib.hid (W3.out.grown grow4 W3.out.size (fun k hk => (O3.out.lt k hk).1)); have own4 := Lib.hid own4; clear grow4)
          go_roundw
          case rel => exact ⟨j + 1, by omega, by go_num, Lib.hid (by rw [hks.out]; have := own4.out; simpa using this), W4⟩
          case measure => simp [intOf]; omega
    · have i0' : ¬ (j : Int) < (n : Int) := by omega
      have hjn : j = n := by omega
      have hkk : Hid (keysN l j = keysT l) := Lib.hid (by unfold keysT; rw [hlen.out, hjn])
      clear hjn
      go_wp2_with fail
      go_returns
      exact ⟨_, rfl, by rw [← hkk.out]; exact hrow.out, hb.out⟩
end Go.Proofs.Ytmjakkemiiigpaa
/-
  The contracts of most. Condition: at most 1048575 rows.
-/
namespace Go.Proofs.Ytmjakkemiiigpaa
set_option maxRecDepth 100000
open Go.RowKit
/-- How many rows fit, as most tells it. -/
def MostN (P : Nat → Bool) (n r : Nat) : Prop := 1 ≤ r ∧ r ≤ n ∧ ∀ j, 1 < j → j ≤ n → (P j = true ↔ j ≤ r)
theorem MostN.one {P : Nat → Bool} {n r s : Nat} (h : MostN P n r) (h' : MostN P n s) : r = s := by
  obtain ⟨h1, h2, h3⟩ := h
  obtain ⟨k1, k2, k3⟩ := h'
  rcases Nat.lt_trichotomy r s with hl | hl | hl
  · have := (h3 s (by omega) k2).1 ((k3 s (by omega) k2).2 (Nat.le_refl _)); omega
  · exact hl
  · have := (k3 r (by omega) h2).1 ((h3 r (by omega) h2).2 (Nat.le_refl _)); omega
theorem most_of {P : Nat → Bool} {n f m r : Nat} (hP : ∀ i j, 1 ≤ i → i ≤ j → j ≤ n → P j = true → P i = true) (h1 : 1 ≤ f) (h2 : f ≤ n) (hf : f = 1 ∨ P f = true) (hm : n < m ∨ P m = false) (hfm : f < m) (hr : Cut (min m (n + 1) - f - 1) (fun i => P (f + 1 + i)) r) : MostN P n (f + r) := by
  obtain ⟨r1, r2⟩ := hr
  refine ⟨by omega, by omega, fun j hj1 hj2 => ?_⟩
  rcases Nat.lt_or_ge f j with hfj | hfj
  · rcases Nat.lt_or_ge j (min m (n + 1)) with hjm | hjm
    · have := r2 (j - f - 1) (by omega)
      simp only at this
      rw [show f + 1 + (j - f - 1) = j by omega] at this
      rw [this]; omega
    · have hmn : m ≤ j := by omega
      constructor
      · intro hp
        rcases hm with hm | hm
        · omega
        · have := hP m j (by omega) hmn hj2 hp; rw [hm] at this; cases this
      · intro hle; omega
  · have : P j = true := by
      rcases hf with rfl | hf
      · omega
      · exact hP j f (by omega) hfj h2 hf
    rw [this]; exact ⟨fun _ => by omega, fun _ => rfl⟩
/-- What stands while most looks. -/
structure MA (w : World) (a : Option Addr) (n c b o : Nat) (l : List Rw) (G : FuncId) (caps : Array Value) (f : Nat) (u : World) : Prop where
  below : Below w.heap.size w u
  rs : Rs a n c b o l u
  bl : Boxed u w.heap.size 22 (.slice a n c)
  bf : Boxed u (w.heap.size + 1) 81 (.func (.func G) #[] caps)
  few : Boxed u (w.heap.size + 2) 3 (.int .i64 (f : Int))
theorem MA.grow {w u v : World} {a : Option Addr} {n c b o f : Nat} {l : List Rw} {G : FuncId} {caps : Array Value} (h : MA w a n c b o l G caps f u) (hb : Below u.heap.size u v) : MA w a n c b o l G caps f v :=
  ⟨below_of h.below hb, h.rs.below hb (Nat.le_refl _), (hb.block _ h.bl.lt).trans h.bl, (hb.block _ h.bf.lt).trans h.bf, (hb.block _ h.few.lt).trans h.few⟩
theorem MA.set {w u : World} {a : Option Addr} {n c b o f : Nat} {l : List Rw} {G : FuncId} {caps : Array Value} (h : MA w a n c b o l G caps f u) (hb : n = 0 ∨ b ≠ w.heap.size + 2) (m : Nat) : MA w a n c b o l G caps m (u.setCell ⟨w.heap.size + 2, 0, none⟩ (.int .i64 (m : Int))) :=
  ⟨h.below.setCell (p := ⟨w.heap.size + 2, 0, none⟩) (Nat.le_add_right _ _) _,
   h.rs.keep (fun h0 => Below.heap_setCell _ _ _ _ (hb.elim (fun h => absurd h0 (by omega)) (fun h => h))) (by simp),
   h.bl.other (by simp) _, h.bf.other (by simp) _, h.few.set _⟩
theorem mostClo_enters : ∀ (args : Array Value) (w : World), (callFunc 88 args).run Try.prog w = .ok (.enter 88 args) w := enters_of Try.func88 (by kernel_rfl) rfl
set_option maxRecDepth 100000 in
set_option maxHeartbeats 4000000 in
theorem mostClo_any {w u : World} {a : Option Addr} {n c b o f : Nat} {l : List Rw} {G : FuncId} {caps : Array Value} (h : MA w a n c b o l G caps f u) (hE : ∀ (args : Array Value) (w : World), (callFunc G args).run Try.prog w = .ok (.enter G args) w) (hn : n ≤ 1048575) (i : Nat) (hi : f + 1 + i ≤ n) (T : Bool)
    (hG : ∀ v, Below u.heap.size u v → Calls Try.prog G (#[.slice a (f + 1 + i) c] ++ caps) v fun e v' => e = .returned (.bool T) ∧ Below v.heap.size v v') :
    Calls Try.prog 88 #[.int .i64 (i : Int), .pointer (some ⟨w.heap.size + 1, 0, none⟩), .pointer (some ⟨w.heap.size, 0, none⟩), .pointer (some ⟨w.heap.size + 2, 0, none⟩)] u fun e u' => e = .returned (.bool !T) ∧ Below u.heap.size u u' := by
  have q0 := h.rs.cap
  have c1 := h.bl.cell
  have c2 := h.bf.cell
  have c3 := h.few.cell
  have e1 : IntKind.i64.wrap ((f : Int) + 1) = (f : Int) + 1 := by rw [IntKind.wrap_i64]; omega
  have e2 : IntKind.i64.wrap ((f : Int) + 1 + (i : Int)) = ((f + 1 + i : Nat) : Int) := by rw [IntKind.wrap_i64]; omega
  obtain ⟨k, hk⟩ := named (f + 1 + i)
  rw [← hk.out] at e2 hG hi
  have SL := fun v => slr_upto a n c k (by omega) v
  have hG := Lib.hid hG
  clear hk h
  go_enter Try.func88, Try.ntmps88
  go_upto_region 1 with fail
  refine wp_region_held_drew (S := (fun v => (v.cell? ⟨w.heap.size, 0, none⟩ = some (.slice a n c) ∧ v.cell? ⟨w.heap.size + 1, 0, none⟩ = some (.func (.func G) #[] caps) ∧ v.cell? ⟨w.heap.size + 2, 0, none⟩ = some (.int .i64 (f : Int))) ∧ Below u.heap.size u v)) (by kernel_rfl) (⟨⟨c1, c2, c3⟩, (Below.refl _ u).drew⟩) (fun hHeld => ?_)
  refine held_take (i := 0) (v := ?_) rfl (by kernel_rfl) (by kernel_rfl) (by kernel_rfl) (fun _ _ _ h => h) (by rfl) (fun w hSw => ?_) (by assumption) ?_; rotate_left 1; focus (((try dsimp only at hSw); first | (go_simp; done) | (go_simp; with_reducible rfl)))
  try simp only [Act.put, List.setIfInBounds_toArray, List.set_cons_zero, List.set_cons_succ]
  refine held_take (i := 1) (v := ?_) rfl (by kernel_rfl) (by kernel_rfl) (by kernel_rfl) (fun _ _ _ h => h) (by rfl) (fun w hSw => ?_) (by assumption) ?_; rotate_left 1; focus (((try dsimp only at hSw); first | (go_simp; done) | (go_simp; with_reducible rfl)))
  try simp only [Act.put, List.setIfInBounds_toArray, List.set_cons_zero, List.set_cons_succ]
  refine held_take (i := 2) (v := ?_) rfl (by kernel_rfl) (by kernel_rfl) (by kernel_rfl) (fun _ _ _ h => h) (by rfl) (fun w hSw => ?_) (by assumption) ?_; rotate_left 1; focus (((try dsimp only at hSw); first | (go_simp; done) | (go_simp; with_reducible rfl)))
  try simp only [Act.put, List.setIfInBounds_toArray, List.set_cons_zero, List.set_cons_succ]
  refine held_take (i := 3) (v := ?_) rfl (by kernel_rfl) (by kernel_rfl) (by kernel_rfl) (fun _ _ _ h => h) (by rfl) (fun w hSw => ?_) (by assumption) ?_; rotate_left 1; focus (((try dsimp only at hSw); first | (go_simp; done) | (go_simp; with_reducible rfl)))
  try simp only [Act.put, List.setIfInBounds_toArray, List.set_cons_zero, List.set_cons_succ]
  refine held_take (i := 4) (v := ?_) rfl (by kernel_rfl) (by kernel_rfl) (by kernel_rfl) (fun _ _ _ h => h) (by rfl) (fun w hSw => ?_) (by assumption) ?_; rotate_left 1; focus (((try dsimp only at hSw); first | (go_simp; done) | (go_simp; with_reducible rfl)))
  try simp only [Act.put, List.setIfInBounds_toArray, List.set_cons_zero, List.set_cons_succ]
  refine held_take (i := 5) (v := ?_) rfl (by kernel_rfl) (by kernel_rfl) (by kernel_rfl) (fun _ _ _ h => h) (by rfl) (fun w hSw => ?_) (by assumption) ?_; rotate_left 1; focus (((try dsimp only at hSw); first | (go_simp; done) | (go_simp; with_reducible rfl)))
  try simp only [Act.put, List.setIfInBounds_toArray, List.set_cons_zero, List.set_cons_succ]
  refine held_take (i := 6) (v := ?_) rfl (by kernel_rfl) (by kernel_rfl) (by kernel_rfl) (fun _ _ _ h => h) (by rfl) (fun w hSw => ?_) (by assumption) ?_; rotate_left 1; focus (((try dsimp only at hSw); first | (go_simp; done) | (go_simp; with_reducible rfl)))
  try simp only [Act.put, List.setIfInBounds_toArray, List.set_cons_zero, List.set_cons_succ]
  refine held_call (i := 7) (by kernel_rfl) rfl (by rfl) (fun K hK => ?_)
  go_simp
  refine (hG.out _ hHeld.2).mono ?_
  rintro e u1 ⟨rfl, hb1⟩
  refine hK.out _ _ (⟨⟨cell_keep hb1 hHeld.1.1, cell_keep hb1 hHeld.1.2.1, cell_keep hb1 hHeld.1.2.2⟩, below_of hHeld.2 hb1⟩) (fun hHeld => ?_)
  try simp only [Act.put, List.setIfInBounds_toArray, List.set_cons_zero, List.set_cons_succ]
  refine held_take (i := 8) (v := ?_) rfl (by kernel_rfl) (by kernel_rfl) (by kernel_rfl) (fun _ _ _ h => h) (by rfl) (fun w hSw => ?_) (by assumption) ?_; rotate_left 1; focus (((try dsimp only at hSw); first | (go_simp; done) | (go_simp; with_reducible rfl)))
  try simp only [Act.put, List.setIfInBounds_toArray, List.set_cons_zero, List.set_cons_succ]
  refine held_take (i := 9) (v := ?_) rfl (by kernel_rfl) (by kernel_rfl) (by kernel_rfl) (fun _ _ _ h => h) (by rfl) (fun w hSw => ?_) (by assumption) ?_; rotate_left 1; focus (((try dsimp only at hSw); first | (go_simp; done) | (go_simp; with_reducible rfl)))
  try simp only [Act.put, List.setIfInBounds_toArray, List.set_cons_zero, List.set_cons_succ]
  refine wpAnyH_done (by kernel_rfl) ?_ _
  go_wp2_with fail
  go_returns
  exact ⟨rfl, hHeld.2⟩
set_option maxRecDepth 100000 in
set_option maxHeartbeats 8000000 in
theorem most_any (G : FuncId) (caps : Array Value) (hE : ∀ (args : Array Value) (w : World), (callFunc G args).run Try.prog w = .ok (.enter G args) w) {a : Option Addr} {n c b o : Nat} {l : List Rw} {w : World} (h : Rs a n c b o l w) (hn1 : 1 ≤ n) (hn : n ≤ 1048575) (P : Nat → Bool)
    (hP : ∀ i j, 1 ≤ i → i ≤ j → j ≤ n → P j = true → P i = true)
    (hG : ∀ k, 1 ≤ k → k ≤ n → ∀ v, Below w.heap.size w v → Calls Try.prog G (#[.slice a k c] ++ caps) v fun e v' => e = .returned (.bool (P k)) ∧ Below v.heap.size v v') :
    Calls Try.prog 74 #[.slice a n c, .func (.func G) #[] caps] w fun e w' => ∃ r, MostN P n r ∧ e = .returned (.int .i64 (r : Int)) ∧ Below w.heap.size w w' := by
  have q0 := h.cap
  have m0 := h.most
  have hbw : b < w.heap.size := (h.addr (by omega)).2
  have hG := Lib.hid hG
  have hP := Lib.hid hP
  obtain ⟨v0, hv0⟩ : ∃ v, v = ((w.alloc (.cells #[.slice a n c] 22)).alloc (.cells #[.func (.func G) #[] caps] 81)).alloc (.cells #[.int .i64 1] 3) := ⟨_, rfl⟩
  have M0 : Hid (MA w a n c b o l G caps 1 v0) := Lib.hid (by
    obtain ⟨v1, h1⟩ : ∃ x, x = w.alloc (.cells #[.slice a n c] 22) := ⟨_, rfl⟩
    rw [← h1] at hv0
    obtain ⟨v2, h2⟩ : ∃ x, x = v1.alloc (.cells #[.func (.func G) #[] caps] 81) := ⟨_, rfl⟩
    rw [← h2] at hv0
    have z1 : v1.heap.size = w.heap.size + 1 := by rw [h1, World.size_alloc]
    have z2 : v2.heap.size = w.heap.size + 2 := by rw [h2, World.size_alloc, z1]
    have B1 : Below w.heap.size w v1 := by rw [h1]; exact below_alloc _ _
    have B2 : Below v1.heap.size v1 v2 := by rw [h2]; exact below_alloc _ _
    have B3 : Below v2.heap.size v2 v0 := by rw [hv0]; exact below_alloc _ _
    have X1 : Boxed v1 w.heap.size 22 (.slice a n c) := by rw [h1]; exact Boxed.new _ _ _
    have X2 : Boxed v2 (w.heap.size + 1) 81 (.func (.func G) #[] caps) := by rw [h2, ← z1]; exact Boxed.new _ _ _
    have X3 : Boxed v0 (w.heap.size + 2) 3 (.int .i64 1) := by rw [hv0, ← z2]; exact Boxed.new _ _ _
    have B13 := below_of B2 B3
    have hB := below_of B1 B13
    exact ⟨hB, h.below hB (Nat.le_refl _), (B13.block _ X1.lt).trans X1, (B3.block _ X2.lt).trans X2, X3⟩)
  have hmf := makes_func
  go_enter Try.func74, Try.ntmps74
  go_wp2_with fail
  rw [← hv0, show w.heap.size + 1 + 1 = w.heap.size + 2 from rfl]
  clear hv0
  go_loopw [6] (fun d wr => ∃ f m : Nat, 1 ≤ f ∧ f ≤ n ∧ m = 2 * f ∧ d = .int .i64 (m : Int) ∧ Hid (f = 1 ∨ P f = true) ∧ Hid (MA w a n c b o l G caps f wr)) (fun d _ => 2 * n + 2 - (intOf d).toNat)
  case atStart => exact ⟨1, 2, Nat.le_refl _, hn1, rfl, rfl, Lib.hid (.inl rfl), M0⟩
  case round =>
    obtain ⟨f, m, hf1, hf2, hm2, rfl, hfp, MA0⟩ := hrel
    have c1 := MA0.out.bl.cell
    have c2 := MA0.out.bf.cell
    replace hm2 := Lib.hid hm2
    have hm3 : f < m := by have := hm2.out; omega
    by_cases hmn : m ≤ n
    · have k1 : (m : Int) ≤ (n : Int) := by omega
      have SL := fun v => slr_upto a n c m (by omega) v
      have GC := Lib.hid (hG.out m (by omega) hmn)
      obtain ⟨T, hT⟩ := named (P m)
      rw [← hT.out] at GC
      go_upto_region 2 with fail
      have MB := Lib.hid MA0.out.below
      refine wp_region_held_drew (S := (fun v => (v.cell? ⟨w.heap.size, 0, none⟩ = some (.slice a n c) ∧ v.cell? ⟨w.heap.size + 1, 0, none⟩ = some (.func (.func G) #[] caps)) ∧ Below wr.heap.size wr v)) (by kernel_rfl) (⟨⟨c1, c2⟩, (Below.refl _ wr).drew⟩) (fun hHeld => ?_)
      refine held_take (i := 0) (v := ?_) rfl (by kernel_rfl) (by kernel_rfl) (by kernel_rfl) (fun _ _ _ h => h) (by rfl) (fun w hSw => ?_) (by assumption) ?_; rotate_left 1; focus (((try dsimp only at hSw); first | (go_simp; done) | (go_simp; with_reducible rfl)))
      try simp only [Act.put, List.setIfInBounds_toArray, List.set_cons_zero, List.set_cons_succ]
      refine held_take (i := 1) (v := ?_) rfl (by kernel_rfl) (by kernel_rfl) (by kernel_rfl) (fun _ _ _ h => h) (by rfl) (fun w hSw => ?_) (by assumption) ?_; rotate_left 1; focus (((try dsimp only at hSw); first | (go_simp; done) | (go_simp; with_reducible rfl)))
      try simp only [Act.put, List.setIfInBounds_toArray, List.set_cons_zero, List.set_cons_succ]
      refine held_take (i := 2) (v := ?_) rfl (by kernel_rfl) (by kernel_rfl) (by kernel_rfl) (fun _ _ _ h => h) (by rfl) (fun w hSw => ?_) (by assumption) ?_; rotate_left 1; focus (((try dsimp only at hSw); first | (go_simp; done) | (go_simp; with_reducible rfl)))
      try simp only [Act.put, List.setIfInBounds_toArray, List.set_cons_zero, List.set_cons_succ]
      refine held_take (i := 3) (v := ?_) rfl (by kernel_rfl) (by kernel_rfl) (by kernel_rfl) (fun _ _ _ h => h) (by rfl) (fun w hSw => ?_) (by assumption) ?_; rotate_left 1; focus (((try dsimp only at hSw); first | (go_simp; done) | (go_simp; with_reducible rfl)))
      try simp only [Act.put, List.setIfInBounds_toArray, List.set_cons_zero, List.set_cons_succ]
      refine held_take (i := 4) (v := ?_) rfl (by kernel_rfl) (by kernel_rfl) (by kernel_rfl) (fun _ _ _ h => h) (by rfl) (fun w hSw => ?_) (by assumption) ?_; rotate_left 1; focus (((try dsimp only at hSw); first | (go_simp; done) | (go_simp; with_reducible rfl)))
      try simp only [Act.put, List.setIfInBounds_toArray, List.set_cons_zero, List.set_cons_succ]
      refine held_take (i := 5) (v := ?_) rfl (by kernel_rfl) (by kernel_rfl) (by kernel_rfl) (fun _ _ _ h => h) (by rfl) (fun w hSw => ?_) (by assumption) ?_; rotate_left 1; focus (((try dsimp only at hSw); first | (go_simp; done) | (go_simp; with_reducible rfl)))
      try simp only [Act.put, List.setIfInBounds_toArray, List.set_cons_zero, List.set_cons_succ]
      refine held_take (i := 6) (v := ?_) rfl (by kernel_rfl) (by kernel_rfl) (by kernel_rfl) (fun _ _ _ h => h) (by rfl) (fun w hSw => ?_) (by assumption) ?_; rotate_left 1; focus (((try dsimp only at hSw); first | (go_simp; done) | (go_simp; with_reducible rfl)))
      try simp only [Act.put, List.setIfInBounds_toArray, List.set_cons_zero, List.set_cons_succ]
      refine held_take (i := 7) (v := ?_) rfl (by kernel_rfl) (by kernel_rfl) (by kernel_rfl) (fun _ _ _ h => h) (by rfl) (fun w hSw => ?_) (by assumption) ?_; rotate_left 1; focus (((try dsimp only at hSw); first | (go_simp; done) | (go_simp; with_reducible rfl)))
      try simp only [Act.put, List.setIfInBounds_toArray, List.set_cons_zero, List.set_cons_succ]
      refine held_take (i := 8) (v := ?_) rfl (by kernel_rfl) (by kernel_rfl) (by kernel_rfl) (fun _ _ _ h => h) (by rfl) (fun w hSw => ?_) (by assumption) ?_; rotate_left 1; focus (((try dsimp only at hSw); first | (go_simp; done) | (go_simp; with_reducible rfl)))
      try simp only [Act.put, List.setIfInBounds_toArray, List.set_cons_zero, List.set_cons_succ]
      refine held_call (i := 9) (by kernel_rfl) rfl (by rfl) (fun K hK => ?_)
      go_simp
      refine (GC.out _ (below_of MB.out hHeld.2)).mono ?_
      rintro e u1 ⟨rfl, hb1⟩
      refine hK.out _ _ (⟨⟨cell_keep hb1 hHeld.1.1, cell_keep hb1 hHeld.1.2⟩, below_of hHeld.2 hb1⟩) (fun hHeld => ?_)
      try simp only [Act.put, List.setIfInBounds_toArray, List.set_cons_zero, List.set_cons_succ]
      refine held_take (i := 10) (v := ?_) rfl (by kernel_rfl) (by kernel_rfl) (by kernel_rfl) (fun _ _ _ h => h) (by rfl) (fun w hSw => ?_) (by assumption) ?_; rotate_left 1; focus (((try dsimp only at hSw); first | (go_simp; done) | (go_simp; with_reducible rfl)))
      try simp only [Act.put, List.setIfInBounds_toArray, List.set_cons_zero, List.set_cons_succ]
      refine wpAnyH_done (by kernel_rfl) ?_ _
      have MM := Lib.hid (MA0.out.grow hHeld.2)
      clear hHeld c1 c2 MA0
      cases T with
      | true =>
        have hT := Lib.hid hT.out
        have z3 := MM.out.few.cell
        have z4 := MM.out.few.frozen
        have w0 : wrap64 (2 * (m : Int)) = 2 * (m : Int) := by unfold wrap64; omega
        go_wp2_with fail
        go_roundw
        case rel => exact ⟨m, 2 * m, by omega, hmn, rfl, by go_num, Lib.hid (.inr hT.out.symm), Lib.hid (MM.out.set (by right; omega) m)⟩
        case measure => simp [intOf]; omega
      | false =>
        have hcut : Hid (n < m ∨ P m = false) := Lib.hid (.inr hT.out.symm)
        clear hT
        have c1 := MM.out.bl.cell
        obtain ⟨M, hM⟩ := named (min m (n + 1))
        obtain ⟨KQ, hK⟩ := named (M - f - 1)
        have hM1 : M ≤ n + 1 := by rw [hM.out]; omega
        have hM2 : f < M := by rw [hM.out]; omega
        have hKM : (M : Int) - (f : Int) - 1 = (KQ : Int) := by have := hK.out; omega
        have hmin : ∀ (ts : Array TypeId) (t : TypeId) (u : World), (Builtin.min_ ts t #[.int .i64 (m : Int), .int .i64 ((n : Int) + 1)]).run Try.prog u = .ok (.int .i64 (M : Int)) u := by
          intro ts t u
          rw [run_min_int2, hM.out]
          have e : (if (n : Int) + 1 < (m : Int) then (n : Int) + 1 else (m : Int)) = ((min m (n + 1) : Nat) : Int) := by split <;> omega
          rw [e]
        have w1 : IntKind.i64.wrap ((M : Int) - (f : Int)) = (M : Int) - (f : Int) := by rw [IntKind.wrap_i64]; omega
        have w2 : IntKind.i64.wrap ((M : Int) - (f : Int) - 1) = (KQ : Int) := by rw [hKM, IntKind.wrap_i64]; omega
        have w2b : IntKind.i64.wrap (KQ : Int) = (KQ : Int) := by rw [IntKind.wrap_i64]; omega
        have SC := Lib.hid (fun (v : World) (hv : Below u1.heap.size u1 v) => search_any 88 #[.pointer (some ⟨w.heap.size + 1, 0, none⟩), .pointer (some ⟨w.heap.size, 0, none⟩), .pointer (some ⟨w.heap.size + 2, 0, none⟩)] mostClo_enters KQ (by omega) (fun i => !P (f + 1 + i)) v
          (fun i j h1 h2 h3 => by
            cases hp : P (f + 1 + j) with
            | false => rfl
            | true =>
              have := hP.out (f + 1 + i) (f + 1 + j) (by omega) (by omega) (by have := hK.out; omega) hp
              rw [this] at h3; cases h3)
          (fun x hx j hj => mostClo_any ((MM.out.grow hv).grow hx) hE hn j (by have := hK.out; omega) (P (f + 1 + j)) (fun y hy => hG.out (f + 1 + j) (by omega) (by have := hK.out; omega) y (below_of ((MM.out.grow hv).grow hx).below hy))))
        have hfin : Hid (∀ r, Cut KQ (fun j => !!P (f + 1 + j)) r → MostN P n (f + r)) := Lib.hid (fun r hr => most_of hP.out hf1 hf2 hfp.out hcut.out (by omega) (by rw [← hM.out, ← hK.out]; simpa using hr))
        have c3 := MM.out.few.cell
        go_upto_region 5 with fail
        refine wp_region_held_drew (S := (fun v => v.cell? ⟨w.heap.size + 2, 0, none⟩ = some (.int .i64 (f : Int)) ∧ Below u1.heap.size u1 v)) (by kernel_rfl) (⟨c3, (Below.refl _ u1).drew⟩) (fun hHeld => ?_)
        refine held_take (i := 0) (v := ?_) rfl (by kernel_rfl) (by kernel_rfl) (by kernel_rfl) (fun _ _ _ h => h) (by rfl) (fun w hSw => ?_) (by assumption) ?_; rotate_left 1; focus (((try dsimp only at hSw); first | (go_simp; done) | (go_simp; with_reducible rfl)))
        try simp only [Act.put, List.setIfInBounds_toArray, List.set_cons_zero, List.set_cons_succ]
        refine held_take (i := 1) (v := ?_) rfl (by kernel_rfl) (by kernel_rfl) (by kernel_rfl) (fun _ _ _ h => h) (by rfl) (fun w hSw => ?_) (by assumption) ?_; rotate_left 1; focus (((try dsimp only at hSw); first | (go_simp; done) | (go_simp; with_reducible rfl)))
        try simp only [Act.put, List.setIfInBounds_toArray, List.set_cons_zero, List.set_cons_succ]
        refine held_take (i := 2) (v := ?_) rfl (by kernel_rfl) (by kernel_rfl) (by kernel_rfl) (fun _ _ _ h => h) (by rfl) (fun w hSw => ?_) (by assumption) ?_; rotate_left 1; focus (((try dsimp only at hSw); first | (go_simp; done) | (go_simp; with_reducible rfl)))
        try simp only [Act.put, List.setIfInBounds_toArray, List.set_cons_zero, List.set_cons_succ]
        refine held_take (i := 3) (v := ?_) rfl (by kernel_rfl) (by kernel_rfl) (by kernel_rfl) (fun _ _ _ h => h) (by rfl) (fun w hSw => ?_) (by assumption) ?_; rotate_left 1; focus (((try dsimp only at hSw); first | (go_simp; done) | (go_simp; with_reducible rfl)))
        try simp only [Act.put, List.setIfInBounds_toArray, List.set_cons_zero, List.set_cons_succ]
        refine held_take (i := 4) (v := ?_) rfl (by kernel_rfl) (by kernel_rfl) (by kernel_rfl) (fun _ _ _ h => h) (by rfl) (fun w hSw => ?_) (by assumption) ?_; rotate_left 1; focus (((try dsimp only at hSw); first | (go_simp; done) | (go_simp; with_reducible rfl)))
        try simp only [Act.put, List.setIfInBounds_toArray, List.set_cons_zero, List.set_cons_succ]
        refine held_take (i := 5) (v := ?_) rfl (by kernel_rfl) (by kernel_rfl) (by kernel_rfl) (fun _ _ _ h => h) (by rfl) (fun w hSw => ?_) (by assumption) ?_; rotate_left 1; focus (((try dsimp only at hSw); first | (go_simp; done) | (go_simp; with_reducible rfl)))
        try simp only [Act.put, List.setIfInBounds_toArray, List.set_cons_zero, List.set_cons_succ]
        refine held_call (i := 6) (by kernel_rfl) rfl (by rfl) (fun K hK => ?_)
        go_simp
        with_reducible refine (SC.out _ hHeld.2).mono ?_
        rintro e u9 ⟨r, hr, rfl, hb9⟩
        have hr2 : r ≤ KQ := hr.1
        have w3 : IntKind.i64.wrap ((f : Int) + (r : Int)) = ((f + r : Nat) : Int) := by rw [IntKind.wrap_i64]; omega
        refine hK.out _ _ (⟨cell_keep hb9 hHeld.1, below_of hHeld.2 hb9⟩) (fun hHeld => ?_)
        try simp only [Act.put, List.setIfInBounds_toArray, List.set_cons_zero, List.set_cons_succ]
        refine held_take (i := 7) (v := ?_) rfl (by kernel_rfl) (by kernel_rfl) (by kernel_rfl) (fun _ _ _ h => h) (by rfl) (fun w hSw => ?_) (by assumption) ?_; rotate_left 1; focus (((try dsimp only at hSw); first | (go_simp; done) | (go_simp; with_reducible rfl)))
        try simp only [Act.put, List.setIfInBounds_toArray, List.set_cons_zero, List.set_cons_succ]
        refine held_take (i := 8) (v := ?_) rfl (by kernel_rfl) (by kernel_rfl) (by kernel_rfl) (fun _ _ _ h => h) (by rfl) (fun w hSw => ?_) (by assumption) ?_; rotate_left 1; focus (((try dsimp only at hSw); first | (go_simp; done) | (go_simp; with_reducible rfl)))
        try simp only [Act.put, List.setIfInBounds_toArray, List.set_cons_zero, List.set_cons_succ]
        refine wpAnyH_done (by kernel_rfl) ?_ _
        go_wp2_with fail
        go_returns
        exact ⟨f + r, hfin.out r hr, rfl, below_of MM.out.below hHeld.2⟩
    · have k1 : ¬ (m : Int) ≤ (n : Int) := by omega
      have hcut : Hid (n < m ∨ P m = false) := Lib.hid (.inl (by omega))
      go_upto_region 2 with fail
      refine wp_region_held_drew (S := (fun v => v.cell? ⟨w.heap.size, 0, none⟩ = some (.slice a n c) ∧ Below wr.heap.size wr v)) (by kernel_rfl) (⟨c1, (Below.refl _ wr).drew⟩) (fun hHeld => ?_)
      refine held_take (i := 0) (v := ?_) rfl (by kernel_rfl) (by kernel_rfl) (by kernel_rfl) (fun _ _ _ h => h) (by rfl) (fun w hSw => ?_) (by assumption) ?_; rotate_left 1; focus (((try dsimp only at hSw); first | (go_simp; done) | (go_simp; with_reducible rfl)))
      try simp only [Act.put, List.setIfInBounds_toArray, List.set_cons_zero, List.set_cons_succ]
      refine held_take (i := 1) (v := ?_) rfl (by kernel_rfl) (by kernel_rfl) (by kernel_rfl) (fun _ _ _ h => h) (by rfl) (fun w hSw => ?_) (by assumption) ?_; rotate_left 1; focus (((try dsimp only at hSw); first | (go_simp; done) | (go_simp; with_reducible rfl)))
      try simp only [Act.put, List.setIfInBounds_toArray, List.set_cons_zero, List.set_cons_succ]
      refine held_take (i := 2) (v := ?_) rfl (by kernel_rfl) (by kernel_rfl) (by kernel_rfl) (fun _ _ _ h => h) (by rfl) (fun w hSw => ?_) (by assumption) ?_; rotate_left 1; focus (((try dsimp only at hSw); first | (go_simp; done) | (go_simp; with_reducible rfl)))
      try simp only [Act.put, List.setIfInBounds_toArray, List.set_cons_zero, List.set_cons_succ]
      refine held_take (i := 3) (v := ?_) rfl (by kernel_rfl) (by kernel_rfl) (by kernel_rfl) (fun _ _ _ h => h) (by rfl) (fun w hSw => ?_) (by assumption) ?_; rotate_left 1; focus (((try dsimp only at hSw); first | (go_simp; done) | (go_simp; with_reducible rfl)))
      try simp only [Act.put, List.setIfInBounds_toArray, List.set_cons_zero, List.set_cons_succ]
      refine held_take (i := 4) (v := ?_) rfl (by kernel_rfl) (by kernel_rfl) (by kernel_rfl) (fun _ _ _ h => h) (by rfl) (fun w hSw => ?_) (by assumption) ?_; rotate_left 1; focus (((try dsimp only at hSw); first | (go_simp; done) | (go_simp; with_reducible rfl)))
      try simp only [Act.put, List.setIfInBounds_toArray, List.set_cons_zero, List.set_cons_succ]
      refine held_skip (i := 5) rfl (by kernel_rfl) (by kernel_rfl) (by kernel_rfl) (fun _ _ _ h => h) (by rfl) (by assumption) ?_
      try simp only [Act.put, List.setIfInBounds_toArray, List.set_cons_zero, List.set_cons_succ]
      refine held_skip (i := 6) rfl (by kernel_rfl) (by kernel_rfl) (by kernel_rfl) (fun _ _ _ h => h) (by rfl) (by assumption) ?_
      try simp only [Act.put, List.setIfInBounds_toArray, List.set_cons_zero, List.set_cons_succ]
      refine held_skip (i := 7) rfl (by kernel_rfl) (by kernel_rfl) (by kernel_rfl) (fun _ _ _ h => h) (by rfl) (by assumption) ?_
      try simp only [Act.put, List.setIfInBounds_toArray, List.set_cons_zero, List.set_cons_succ]
      refine held_skip (i := 8) rfl (by kernel_rfl) (by kernel_rfl) (by kernel_rfl) (fun _ _ _ h => h) (by rfl) (by assumption) ?_
      try simp only [Act.put, List.setIfInBounds_toArray, List.set_cons_zero, List.set_cons_succ]
      refine held_skip (i := 9) rfl (by kernel_rfl) (by kernel_rfl) (by kernel_rfl) (fun _ _ _ h => h) (by rfl) (by assumption) ?_
      try simp only [Act.put, List.setIfInBounds_toArray, List.set_cons_zero, List.set_cons_succ]
      refine held_take (i := 10) (v := ?_) rfl (by kernel_rfl) (by kernel_rfl) (by kernel_rfl) (fun _ _ _ h => h) (by rfl) (fun w hSw => ?_) (by assumption) ?_; rotate_left 1; focus (((try dsimp only at hSw); first | (go_simp; done) | (go_simp; with_reducible rfl)))
      try simp only [Act.put, List.setIfInBounds_toArray, List.set_cons_zero, List.set_cons_succ]
      refine wpAnyH_done (by kernel_rfl) ?_ _
      have MM := Lib.hid (MA0.out.grow hHeld.2)
      clear hHeld c1 c2 MA0
      generalize wr.drew = u1 at *
      have c1 := MM.out.bl.cell
      obtain ⟨M, hM⟩ := named (min m (n + 1))
      obtain ⟨KQ, hK⟩ := named (M - f - 1)
      have hM1 : M ≤ n + 1 := by rw [hM.out]; omega
      have hM2 : f < M := by rw [hM.out]; omega
      have hKM : (M : Int) - (f : Int) - 1 = (KQ : Int) := by have := hK.out; omega
      have hmin : ∀ (ts : Array TypeId) (t : TypeId) (u : World), (Builtin.min_ ts t #[.int .i64 (m : Int), .int .i64 ((n : Int) + 1)]).run Try.prog u = .ok (.int .i64 (M : Int)) u := by
        intro ts t u
        rw [run_min_int2, hM.out]
        have e : (if (n : Int) + 1 < (m : Int) then (n : Int) + 1 else (m : Int)) = ((min m (n + 1) : Nat) : Int) := by split <;> omega
        rw [e]
      have w1 : IntKind.i64.wrap ((M : Int) - (f : Int)) = (M : Int) - (f : Int) := by rw [IntKind.wrap_i64]; omega
      have w2 : IntKind.i64.wrap ((M : Int) - (f : Int) - 1) = (KQ : Int) := by rw [hKM, IntKind.wrap_i64]; omega
      have w2b : IntKind.i64.wrap (KQ : Int) = (KQ : Int) := by rw [IntKind.wrap_i64]; omega
      have SC := Lib.hid (fun (v : World) (hv : Below u1.heap.size u1 v) => search_any 88 #[.pointer (some ⟨w.heap.size + 1, 0, none⟩), .pointer (some ⟨w.heap.size, 0, none⟩), .pointer (some ⟨w.heap.size + 2, 0, none⟩)] mostClo_enters KQ (by omega) (fun i => !P (f + 1 + i)) v
        (fun i j h1 h2 h3 => by
          cases hp : P (f + 1 + j) with
          | false => rfl
          | true =>
            have := hP.out (f + 1 + i) (f + 1 + j) (by omega) (by omega) (by have := hK.out; omega) hp
            rw [this] at h3; cases h3)
        (fun x hx j hj => mostClo_any ((MM.out.grow hv).grow hx) hE hn j (by have := hK.out; omega) (P (f + 1 + j)) (fun y hy => hG.out (f + 1 + j) (by omega) (by have := hK.out; omega) y (below_of ((MM.out.grow hv).grow hx).below hy))))
      have hfin : Hid (∀ r, Cut KQ (fun j => !!P (f + 1 + j)) r → MostN P n (f + r)) := Lib.hid (fun r hr => most_of hP.out hf1 hf2 hfp.out hcut.out (by omega) (by rw [← hM.out, ← hK.out]; simpa using hr))
      have c3 := MM.out.few.cell
      go_upto_region 5 with fail
      refine wp_region_held_drew (S := (fun v => v.cell? ⟨w.heap.size + 2, 0, none⟩ = some (.int .i64 (f : Int)) ∧ Below u1.heap.size u1 v)) (by kernel_rfl) (⟨c3, (Below.refl _ u1).drew⟩) (fun hHeld => ?_)
      refine held_take (i := 0) (v := ?_) rfl (by kernel_rfl) (by kernel_rfl) (by kernel_rfl) (fun _ _ _ h => h) (by rfl) (fun w hSw => ?_) (by assumption) ?_; rotate_left 1; focus (((try dsimp only at hSw); first | (go_simp; done) | (go_simp; with_reducible rfl)))
      try simp only [Act.put, List.setIfInBounds_toArray, List.set_cons_zero, List.set_cons_succ]
      refine held_take (i := 1) (v := ?_) rfl (by kernel_rfl) (by kernel_rfl) (by kernel_rfl) (fun _ _ _ h => h) (by rfl) (fun w hSw => ?_) (by assumption) ?_; rotate_left 1; focus (((try dsimp only at hSw); first | (go_simp; done) | (go_simp; with_reducible rfl)))
      try simp only [Act.put, List.setIfInBounds_toArray, List.set_cons_zero, List.set_cons_succ]
      refine held_take (i := 2) (v := ?_) rfl (by kernel_rfl) (by kernel_rfl) (by kernel_rfl) (fun _ _ _ h => h) (by rfl) (fun w hSw => ?_) (by assumption) ?_; rotate_left 1; focus (((try dsimp only at hSw); first | (go_simp; done) | (go_simp; with_reducible rfl)))
      try simp only [Act.put, List.setIfInBounds_toArray, List.set_cons_zero, List.set_cons_succ]
      refine held_take (i := 3) (v := ?_) rfl (by kernel_rfl) (by kernel_rfl) (by kernel_rfl) (fun _ _ _ h => h) (by rfl) (fun w hSw => ?_) (by assumption) ?_; rotate_left 1; focus (((try dsimp only at hSw); first | (go_simp; done) | (go_simp; with_reducible rfl)))
      try simp only [Act.put, List.setIfInBounds_toArray, List.set_cons_zero, List.set_cons_succ]
      refine held_take (i := 4) (v := ?_) rfl (by kernel_rfl) (by kernel_rfl) (by kernel_rfl) (fun _ _ _ h => h) (by rfl) (fun w hSw => ?_) (by assumption) ?_; rotate_left 1; focus (((try dsimp only at hSw); first | (go_simp; done) | (go_simp; with_reducible rfl)))
      try simp only [Act.put, List.setIfInBounds_toArray, List.set_cons_zero, List.set_cons_succ]
      refine held_take (i := 5) (v := ?_) rfl (by kernel_rfl) (by kernel_rfl) (by kernel_rfl) (fun _ _ _ h => h) (by rfl) (fun w hSw => ?_) (by assumption) ?_; rotate_left 1; focus (((try dsimp only at hSw); first | (go_simp; done) | (go_simp; with_reducible rfl)))
      try simp only [Act.put, List.setIfInBounds_toArray, List.set_cons_zero, List.set_cons_succ]
      refine held_call (i := 6) (by kernel_rfl) rfl (by rfl) (fun K hK => ?_)
      go_simp
      with_reducible refine (SC.out _ hHeld.2).mono ?_
      rintro e u9 ⟨r, hr, rfl, hb9⟩
      have hr2 : r ≤ KQ := hr.1
      have w3 : IntKind.i64.wrap ((f : Int) + (r : Int)) = ((f + r : Nat) : Int) := by rw [IntKind.wrap_i64]; omega
      refine hK.out _ _ (⟨cell_keep hb9 hHeld.1, below_of hHeld.2 hb9⟩) (fun hHeld => ?_)
      try simp only [Act.put, List.setIfInBounds_toArray, List.set_cons_zero, List.set_cons_succ]
      refine held_take (i := 7) (v := ?_) rfl (by kernel_rfl) (by kernel_rfl) (by kernel_rfl) (fun _ _ _ h => h) (by rfl) (fun w hSw => ?_) (by assumption) ?_; rotate_left 1; focus (((try dsimp only at hSw); first | (go_simp; done) | (go_simp; with_reducible rfl)))
      try simp only [Act.put, List.setIfInBounds_toArray, List.set_cons_zero, List.set_cons_succ]
      refine held_take (i := 8) (v := ?_) rfl (by kernel_rfl) (by kernel_rfl) (by kernel_rfl) (fun _ _ _ h => h) (by rfl) (fun w hSw => ?_) (by assumption) ?_; rotate_left 1; focus (((try dsimp only at hSw); first | (go_simp; done) | (go_simp; with_reducible rfl)))
      try simp only [Act.put, List.setIfInBounds_toArray, List.set_cons_zero, List.set_cons_succ]
      refine wpAnyH_done (by kernel_rfl) ?_ _
      go_wp2_with fail
      go_returns
      exact ⟨f + r, hfin.out r hr, rfl, below_of MM.out.below hHeld.2⟩
end Go.Proofs.Ytmjakkemiiigpaa
/-
  A loop over an iterator that would never end if the loop went on behind what it must stop at: what the iterator owes then, and the loop's rule, over the library's own steps; what a round leaves true may speak of the world. No condition.
-/
namespace Go.Proofs.Ytmjakkemiiigpaa
set_option maxRecDepth 100000
open Go.RowKit
theorem grown_of_belowW {w w' : World} (h : Below w.heap.size w w') : w.grownBy w' none := ⟨h.os, h.tape, h.output, h.size, fun k hk _ => h.block k hk⟩
/-- What the iterator's value owes to a loop whose rounds, where they go on, keep what lay below B, and go on behind nothing but what G says. Ok: what it hands over next; S: what has come when it ends by itself. -/
def SeqUntilW {α : Type} (P : Program) (gf : Nat) (lb : Array Value) (encs : α → Array Value) (B : Nat) (Ok : List α → α → Prop) (G : List α → World → Prop) (S : List α → Prop) (w : World) : Prop :=
  ∀ (l : Nat) (J Jx : List α → World → Prop) (W : World), Below w.heap.size w W → (∀ s A C, J s A → Below A.heap.size A C → J s C) → (∀ s A C, Jx s A → Below A.heap.size A C → Jx s C) → (∀ pre A, J pre A → G pre A) →
    (∀ pre x A, J pre A → Ok pre x → YieldAt Fence.wide 4 P l (encs x) A fun e C => (e = .returned (.bool true) ∧ J (pre ++ [x]) C ∧ Below B A C) ∨ (e = .returned (.bool false) ∧ Jx (pre ++ [x]) C)) →
    J [] W → CallsIn Fence.wide 5 P gf (#[.func (.yield l) #[] #[]] ++ lb) W fun e C => (∃ v, e = .returned v) ∧ ((∃ xs, S xs ∧ J xs C) ∨ (∃ pre, Jx pre C))
variable {α : Type} {P : Program}
/-- The rule for 'for x := range f' over such an iterator. -/
theorem wpIn_range_untilW {g : Operand} {ps : Array Tmp} {assign body : Code} {Q : Exit → Act → World → Prop} {a : Act} {w : World}
    {gf : Nat} {lb : Array Value} (hg : a.eval g = .func (.func gf) #[] lb) (eg : ∀ args v, (callFunc gf args).run P v = .ok (.enter gf args) v)
    {encs : α → Array Value} {B : Nat} (hB : B ≤ w.heap.size) {Ok : List α → α → Prop} {G : List α → World → Prop} {S : List α → Prop} (hseq : SeqUntilW P gf lb encs B Ok G S w) (hps : ∀ x, (encs x).size = ps.size)
    (I : List α → World → Prop) (Ix : Code → List α → World → Prop) (hI : OwnFrom w.heap.size I) (hIx : ∀ c, OwnFrom w.heap.size (Ix c)) (hG : ∀ pre W, I pre W → G pre W) (h0 : I [] w)
    (Ax : α → Act → World → Prop) (hAx : ∀ x a', OwnFrom w.heap.size (fun (_ : Unit) W => Ax x a' W))
    (hassign : ∀ (l : Nat) (pre : List α) (x : α) (W : World) (K : Act → World → Prop), I pre W → (∀ a' W', KeepsFrom w.heap.size W W' → Below B W W' → I pre W' → Ax x a' W' → K a' W') →
      assign.wpIn (Fence.wide.inRound l) 4 P (Exit.then K (fun _ _ _ => False)) { tmps := (ps.zip (encs x)).foldl (fun t (p, v) => t.setIfInBounds p v) a.tmps, defers := [] } W)
    (hbody : ∀ (l : Nat) (pre : List α) (x : α) (a' : Act) (W : World), Ok pre x → I pre W → Ax x a' W → body.wpIn (Fence.wide.inRound l) 4 P (ownPostG w.heap.size (Below B) I Ix (pre ++ [x]) W) a' W)
    (hdone : ∀ (D : Nat) (xs : List α) (W : World), w.heap.size ≤ D → S xs → I xs W → W.heap[D]? = some (.deferred (some [])) → Q .normal { a with defers := { target := .collected D, args := #[] } :: a.defers } W)
    (hstop : ∀ (D : Nat) (c : Code) (pre : List α) (W : World), w.heap.size ≤ D → Ix c pre W → W.heap[D]? = some (.deferred (some [])) → c.wpIn Fence.wide 6 P Q { a with defers := { target := .collected D, args := #[] } :: a.defers } W) :
    (Code.rangeFunc g ps assign body).wpIn Fence.wide 6 P Q a w := by
  refine wpIn_rangeFunc fun fn hfn => ?_
  -- the loop's record in its states, and the two blocks that the statement lays
  obtain ⟨L, hL⟩ : ∃ L : LoopState → Option Code → Loop, L = fun st pe => { state := st, pending := pe, fn, tmps := a.tmps, params := ps, assign, body, defers := w.heap.size } := ⟨_, rfl⟩
  obtain ⟨W1, hW1⟩ : ∃ W1, W1 = (w.alloc (.deferred (some []))).alloc (.loop (L .ready none)) := ⟨_, rfl⟩
  let Held (st : LoopState) (pe : Option Code) (W : World) : Prop := W.heap[w.heap.size + 1]? = some (.loop (L st pe)) ∧ W.heap[w.heap.size]? = some (.deferred (some []))
  have hz1 : W1.heap.size = w.heap.size + 2 := by rw [hW1]; simp
  have hheld1 : Held .ready none W1 := by
    constructor
    · rw [hW1]; have := World.alloc_heap_new (w.alloc (.deferred (some []))) (.loop (L .ready none)); rwa [World.size_alloc] at this
    · rw [hW1]; exact (Below.heap_alloc _ _ _ (by simp)).trans (World.alloc_heap_new w _)
  have hI1 : I [] W1 := by rw [hW1]; exact hI.alloc _ (hI.alloc _ h0)
  have hb1 : Below w.heap.size w W1 := by rw [hW1]; exact ((Below.refl _ w).alloc (Nat.le_refl _) _).alloc (by simp) _
  have hheldB : ∀ {st pe A C}, Held st pe A → Below A.heap.size A C → Held st pe C := fun h hb =>
    ⟨(hb.block _ (Array.getElem?_eq_some_iff.1 h.1).1).trans h.1, (hb.block _ (Array.getElem?_eq_some_iff.1 h.2).1).trans h.2⟩
  have hIB : ∀ {s A C}, I s A → Below A.heap.size A C → I s C := fun h hb => hI _ _ _ none h (grown_of_belowW hb) (fun r e => by cases e)
  have hIxB : ∀ {c s A C}, Ix c s A → Below A.heap.size A C → Ix c s C := fun h hb => hIx _ _ _ _ none h (grown_of_belowW hb) (fun r e => by cases e)
  refine ⟨w.heap.size + 1, [{ target := .collected w.heap.size, args := #[] }], W1, { target := .fn (.func gf) lb, args := #[.func (.yield (w.heap.size + 1)) #[] #[]] }, W1, gf,
    #[.func (.yield (w.heap.size + 1)) #[] #[]] ++ lb, W1, ?_, ?_, fun _ _ => trivial, ?_, fun _ => by decide, ?_⟩
  · rw [hW1, hL]; exact run_enterLoop_outer _ _ _ _ _
  · simp only [resolve, hg]
    simp [go_sem]
  · simp [invoke, go_sem, eg]
  refine (hseq (w.heap.size + 1) (fun pre W => I pre W ∧ Held .ready none W) (fun pre W => ∃ c, Ix c pre W ∧ Held .done (some c) W) W1 hb1
    (fun s A C h hb => ⟨hIB h.1 hb, hheldB h.2 hb⟩) (fun s A C h hb => by obtain ⟨c, h1, h2⟩ := h; exact ⟨c, hIxB h1 hb, hheldB h2 hb⟩) (fun pre A h => hG pre A h.1) ?_ ⟨hI1, hheld1⟩).mono ?_
  · -- one round
    rintro pre x W0 ⟨hi0, hh0⟩ hok
    have hy := run_yield (P := P) (args := encs x) hh0.1 (by rw [hL]; exact hps x)
    rw [hL] at hy
    refine ⟨fn, _, assign, body, hy, roundIn_of_wpIn hfn (hassign _ pre x W0 _ hi0 fun a' W hk0 hb0 hi hax => ?_)⟩
    clear hy
    have hh : Held .ready none W := ⟨hk0.same _ _ (by omega) hh0.1 rfl, hk0.same _ _ (Nat.le_refl _) hh0.2 rfl⟩
    have hlt : w.heap.size + 1 < W.heap.size := (Array.getElem?_eq_some_iff.1 hh.1).1
    refine ⟨_, run_beginRound hh.1 (by rw [hL]), ?_⟩
    obtain ⟨V, hV⟩ : ∃ V, V = W.putObj (w.heap.size + 1) (.loop { L .ready none with state := .busy }) := ⟨_, rfl⟩
    have hbusy : V.heap[w.heap.size + 1]? = some (.loop { L .ready none with state := .busy }) := by rw [hV]; exact World.putObj_heap_same hlt
    have hdef : V.heap[w.heap.size]? = some (.deferred (some [])) := by rw [hV]; exact (World.putObj_heap_other (by omega)).trans hh.2
    have hbV : Below B W V := by rw [hV]; exact belowK_b hB _ _ _ _ (by omega) hh.1 rfl rfl
    have hiV : I pre V := by rw [hV]; exact hI.putObj _ hi (by omega) hh.1 rfl
    have haV : Ax x a' V := by rw [hV]; exact (hAx x a').putObj (s := ()) _ hax (by omega) hh.1 rfl
    rw [← hV]
    refine wpIn_mono (hbody _ pre x a' V hok hiV haV) ?_
    -- the round's end, whatever the jump
    have fin : ∀ (jump : Option Code) (C : World), KeepsFrom w.heap.size V C → ∃ C', (Instr.endRound (w.heap.size + 1) jump).run P C = .ok (.bool jump.isNone) C' ∧ Held (if jump.isNone then .ready else .done) jump C' ∧
        Below B C C' ∧ (∀ s, I s C → I s C') ∧ (∀ c s, Ix c s C → Ix c s C') := fun jump C hk => by
      have h3 := hk.same _ _ (by omega) hbusy rfl
      have hr := run_endRound (P := P) jump h3
      refine ⟨C.putObj (w.heap.size + 1) (.loop (L (if jump.isNone then .ready else .done) jump)), by rw [hL] at hr ⊢; exact hr, ⟨World.putObj_heap_same (Array.getElem?_eq_some_iff.1 h3).1, (World.putObj_heap_other (by omega)).trans (hk.same _ _ (Nat.le_refl _) hdef rfl)⟩, belowK_b hB _ _ _ _ (by omega) h3 rfl rfl, fun s hs => hI.putObj _ hs (by omega) h3 rfl, fun c s hs => (hIx c).putObj _ hs (by omega) h3 rfl⟩
    have left : ∀ (c : Code) (C : World), KeepsFrom w.heap.size V C ∧ Ix c (pre ++ [x]) C → ∃ v C', (Instr.endRound (w.heap.size + 1) (some c)).run P C = .ok v C' ∧
        ((Ending.returned v = .returned (.bool true) ∧ (I (pre ++ [x]) C' ∧ Held .ready none C') ∧ Below B W0 C') ∨ (Ending.returned v = .returned (.bool false) ∧ ∃ c, Ix c (pre ++ [x]) C' ∧ Held .done (some c) C')) := fun c C h => by
      obtain ⟨C', hr, hh', _, _, hx⟩ := fin (some c) C h.1
      exact ⟨_, C', hr, .inr ⟨rfl, c, hx c _ h.2, hh'⟩⟩
    rintro e a3 C hp
    cases e with
    | normal =>
      obtain ⟨C', hr, hh', hb, hx, _⟩ := fin none C hp.1
      exact ⟨_, C', hr, .inl ⟨rfl, ⟨hx _ hp.2.2, hh'⟩, hb0.trans (hbV.trans (hp.2.1.trans hb))⟩⟩
    | ret => exact left .ret C hp
    | exit id => exact left (.exit id) C hp
    | goto t => exact left (.goto t) C hp
    | panic ch => exact hp.elim
    | outgrown => exact hp.elim
  · -- behind the iterator
    rintro e C ⟨⟨v, rfl⟩, (⟨xs, hS, hi, hh⟩ | ⟨pre, c, hi, hh⟩)⟩
    · exact ⟨none, _, by have := run_endLoop (P := P) hh.1 (by rw [hL]; simp); rw [hL] at this; exact this, hdone _ xs _ (Nat.le_refl _) hS (hI.putObj _ hi (by omega) hh.1 rfl) ((World.putObj_heap_other (by omega)).trans hh.2)⟩
    · exact ⟨some c, _, by have := run_endLoop (P := P) hh.1 (by rw [hL]; simp); rw [hL] at this; exact this, hstop _ c pre _ (Nat.le_refl _) ((hIx c).putObj _ hi (by omega) hh.1 rfl) ((World.putObj_heap_other (by omega)).trans hh.2)⟩
end Go.Proofs.Ytmjakkemiiigpaa
/-
  The contract of parts and of its iterator. Condition: at most 1048575 rows.
-/
namespace Go.Proofs.Ytmjakkemiiigpaa
set_option maxRecDepth 100000
open Go.RowKit
attribute [local go_sem] Oper.semAt_some
/-- How many rows have come. -/
def tot (pre : List (Nat × Nat)) : Nat := (pre.map fun x => x.2).sum
theorem tot_snoc (pre : List (Nat × Nat)) (x : Nat × Nat) : tot (pre ++ [x]) = tot pre + x.2 := by simp [tot]
/-- What comes next: where it starts, and how many rows. -/
def NextPart (n : Nat) (P : Nat → Nat → Bool) (pre : List (Nat × Nat)) (x : Nat × Nat) : Prop := x.1 = tot pre ∧ x.1 < n ∧ MostN (P x.1) (n - x.1) x.2
def encPart (b o c : Nat) (x : Nat × Nat) : Array Value := #[.slice (some ⟨b, o + x.1 * 4, none⟩) x.2 (c - x.1)]
theorem tparts_any (a : Option Addr) (n c : Nat) (G : FuncId) (caps : Array Value) (w : World) :
    Calls Try.prog 47 #[.slice a n c, .func (.func G) #[] caps] w fun e w' => e = .returned (.func (.func 73) #[] #[.pointer (some ⟨w.heap.size, 0, none⟩), .pointer (some ⟨w.heap.size + 1, 0, none⟩)]) ∧
      Boxed w' w.heap.size 22 (.slice a n c) ∧ Boxed w' (w.heap.size + 1) 81 (.func (.func G) #[] caps) ∧ w'.heap.size = w.heap.size + 2 ∧ Below w.heap.size w w' := by
  have hmf := makes_func
  have X1 := (Boxed.new w 22 (.slice a n c)).alloc (.cells #[.func (.func G) #[] caps] 81)
  have X2 := Boxed.new (w.alloc (.cells #[.slice a n c] 22)) 81 (.func (.func G) #[] caps)
  rw [World.size_alloc] at X2
  go_enter Try.func47, Try.ntmps47
  go_wp2_with fail
  go_returns
  exact ⟨rfl, X1, X2, by simp, (below_alloc w _).alloc (by simp) _⟩
def sliceLen (v : Value) : Nat := match v with | .slice _ n _ => n | _ => 0
theorem rs_rest {n c b o k : Nat} {l : List Rw} {w : World} (h : Rs (some ⟨b, o, none⟩) n c b o l w) (hk : k < n) : Rs (some ⟨b, o + k * 4, none⟩) (n - k) (c - k) b (o + k * 4) (l.drop k) w := by
  have h1 := h.from (Nat.le_of_lt hk)
  have hc := h.cap
  have : fromA (some ⟨b, o, none⟩) c k = some ⟨b, o + k * 4, none⟩ := by
    unfold fromA
    rw [if_neg (by omega)]
    simp [addr_add]
  rwa [this] at h1
set_option maxRecDepth 100000 in
set_option maxHeartbeats 4000000 in
/-- The iterator's contract. Q: what every round leaves true of the world: the rows stand, the closure stands and answers. -/
theorem parts_until (G : FuncId) (caps : Array Value) (hE : ∀ (args : Array Value) (w : World), (callFunc G args).run Try.prog w = .ok (.enter G args) w) {n c b o : Nat} {l : List Rw} {a : Option Addr} (ha : 0 < n → a = some ⟨b, o, none⟩) (hn : n ≤ 1048575) (P : Nat → Nat → Bool)
    (hP : ∀ k i j, k < n → 1 ≤ i → i ≤ j → j ≤ n - k → P k j = true → P k i = true)
    (Q : World → Prop) (bl bf : Nat) (hQ : ∀ A C, Q A → Below A.heap.size A C → Q C)
    (hQf : ∀ A, Q A → Boxed A bf 81 (.func (.func G) #[] caps)) (hQr : ∀ A, Q A → 0 < n → Rs (some ⟨b, o, none⟩) n c b o l A)
    (hQc : ∀ A, Q A → ∀ k j, k < n → 1 ≤ j → j ≤ n - k → Calls Try.prog G (#[.slice (some ⟨b, o + k * 4, none⟩) j (c - k)] ++ caps) A fun e A' => e = .returned (.bool (P k j)) ∧ Below A.heap.size A A')
    (B : Nat) (w : World) (hb : bl < w.heap.size) (hc : w.cell? ⟨bl, 0, none⟩ = some (.slice a n c)) :
    SeqUntilW Try.prog 73 #[.pointer (some ⟨bl, 0, none⟩), .pointer (some ⟨bf, 0, none⟩)] (encPart b o c) B (NextPart n P) (fun _ A => Q A) (fun xs => tot xs = n) w := by
  intro L J Jx W hW hJ hJx hG hY h0
  have hc' : W.cell? ⟨bl, 0, none⟩ = some (.slice a n c) := (hW.cell (p := ⟨bl, 0, none⟩) hb).trans hc
  refine callsIn_of_wp Try.func73 rfl trivial ?_ rfl
  simp only [Try.ntmps73, List.size_toArray, List.length_cons, List.length_nil, Nat.reduceAdd, Nat.reduceSub, Array.replicate_succ, Array.replicate_zero, List.push_toArray, List.append_toArray, List.nil_append, List.cons_append]
  gi_wp2
  gi_loopw [4] (fun r wr => ∃ (pre : List (Nat × Nat)) (p : Option Addr), tot pre ≤ n ∧ (tot pre < n → p = some ⟨b, o + tot pre * 4, none⟩) ∧ r = .slice p (n - tot pre) (c - tot pre) ∧ J pre wr) (fun r _ => sliceLen r)
  case atStart => exact ⟨[], a, Nat.zero_le _, fun h => by rw [ha (by omega)]; simp [tot], by simp [tot], h0⟩
  case round =>
    obtain ⟨pre, p, hk, hp, rfl, hJs⟩ := hrel
    have hQs := hG pre wr hJs
    obtain ⟨k, hkk⟩ := named (tot pre)
    rw [← hkk.out] at hk hp ⊢
    by_cases hlt : k < n
    · obtain rfl := hp hlt
      have k1 : (0 : Int) < ((n - k : Nat) : Int) := by omega
      have k2 : 0 < n - k := by omega
      have hr := hQr wr hQs (by omega)
      have hcap := hr.cap
      have MC := Lib.hid (most_any G caps hE (rs_rest hr hlt) (by omega) (by omega) (P k) (fun i j h1 h2 h3 => hP k i j hlt h1 h2 h3) (fun j h1 h2 v hv => hQc v (hQ _ _ hQs hv) k j hlt h1 h2))
      have cf := (hQf wr hQs).cell
      have HY := Lib.hid (fun (r : Nat) (hr : MostN (P k) (n - k) r) (A : World) (h : J pre A) => hY pre (k, r) A h ⟨hkk.out, hlt, hr⟩)
      unfold encPart at HY
      simp only at HY
      gi_wp2_with (refine ⟨trivial, ?_⟩; gi_at_call 74; refine (callsIn_wide.2 MC.out).mono ?_; rintro e w1 ⟨r, hr, rfl, hb1⟩; have hr := Lib.hid hr; have hr1 := hr.out.1; have hr2 := hr.out.2.1; obtain ⟨fn, tmps, assign, body, hy, hR1⟩ := HY.out r hr.out w1 (hJ _ _ _ hJs hb1); have SU := fun u => slr_upto (some ⟨b, o + k * 4, none⟩) (n - k) (c - k) r (by omega) u)
      refine hR1.mono ?_
      rintro e C' (⟨rfl, hJ3, hk3⟩ | ⟨rfl, hJx3⟩)
      · have SF := fun u => slr_from (some ⟨b, o + k * 4, none⟩) (n - k) (c - k) r hr2 (r : Int) rfl u
        gi_wp2
        go_roundw
        case rel =>
          refine ⟨pre ++ [(k, r)], fromA (some ⟨b, o + k * 4, none⟩) (c - k) r, ?_, ?_, ?_, hJ3⟩
          · rw [tot_snoc, ← hkk.out]; simp only; omega
          · intro h1
            rw [tot_snoc, ← hkk.out] at h1 ⊢
            simp only at h1 ⊢
            unfold fromA
            rw [if_neg (by omega)]
            simp only [Option.map_some, addr_add]
            rw [show o + k * 4 + r * 4 = o + (k + r) * 4 by omega]
          · rw [tot_snoc, ← hkk.out]; simp only; rw [Nat.sub_sub, Nat.sub_sub]
        case measure => show n - k - r < n - k; omega
      · gi_wp2
        refine bodyPost_ret (results_none rfl _ _ _) rfl ?_
        exact ⟨⟨_, rfl⟩, .inr ⟨pre ++ [(k, r)], hJx3⟩⟩
    · have k1 : ¬ (0 : Int) < ((n - k : Nat) : Int) := by omega
      have k2 : n - k = 0 := by omega
      rw [k2]
      gi_wp2
      go_end0
      exact ⟨⟨_, rfl⟩, .inl ⟨pre, by rw [← hkk.out]; omega, hJs⟩⟩
end Go.Proofs.Ytmjakkemiiigpaa
/-
  The closure that tells whether rows fit; the builder's Len; what a builder is across a loop's record. No condition.
-/
namespace Go.Proofs.Ytmjakkemiiigpaa
set_option maxRecDepth 100000
open Go.RowKit
/-- Options in a box. -/
def OptAt (b : Nat) (B R K : Int) (w : World) : Prop := w.heap[b]? = some (.cells #[.int .i64 B, .int .i64 R, .int .i64 K] 24 (0, 0))
theorem OptAt.below {b : Nat} {B R K : Int} {w w' : World} (h : OptAt b B R K w) (hb : Below w.heap.size w w') : OptAt b B R K w' := (hb.block b (Array.getElem?_eq_some_iff.1 h).1).trans h
theorem OptAt.cells {b : Nat} {B R K : Int} {w : World} (h : OptAt b B R K w) : w.cell? ⟨b, 0, none⟩ = some (.int .i64 B) ∧ w.cell? ⟨b, 1, none⟩ = some (.int .i64 R) ∧ w.cell? ⟨b, 2, none⟩ = some (.int .i64 K) := by
  unfold OptAt at h
  simp [World.cell?, h]
/-- Do rows fit? -/
def fitB (B R : Int) (c : List Rw) : Bool := decide ((buildB c R).2 = 0) && decide (((buildB c R).1.length : Int) ≤ B)
theorem chkA_take2 {l : List Rw} {d : Int} (h : chkA l d = 0) (k : Nat) : chkA (l.take k) d = 0 := by
  obtain ⟨h1, h2, h3, h4, h5⟩ := chkA_ok h
  obtain ⟨D, rfl⟩ : ∃ D : Nat, d = (D : Int) := ⟨d.toNat, by omega⟩
  refine chkA_zero (by omega) (by omega) ?_ (fun x hx => h4 x (List.mem_of_mem_take hx)) (by rw [List.length_take]; omega)
  refine (ordR_iff _).2 fun j x y hx hy => (ordR_iff l).1 h3 j x y ?_ ?_
  · rw [List.getElem?_take] at hx; split at hx; exact hx; cases hx
  · rw [List.getElem?_take] at hy; split at hy; exact hy; cases hy
theorem blkB_take_le (d : Nat) (l : List Rw) (k : Nat) : (blkB d (l.take k)).length ≤ (blkB d l).length := by
  rcases Nat.lt_or_ge k l.length with hk | hk
  · have e : (l.take k).length = k := by rw [List.length_take]; omega
    unfold blkB
    rw [e, bodB_take d l (Nat.le_refl k), rstB_take d l (Nat.le_refl k), List.length_append, List.length_append, tailB_len, tailB_len]
    have h1 := bodB_mono d l k (l.length - k)
    have h2 := rstB_mono d l k (l.length - k)
    rw [show k + (l.length - k) = l.length by omega] at h1 h2
    omega
  · rw [List.take_of_length_le hk]; exact Nat.le_refl _
theorem fit_take {B R : Int} {c : List Rw} (h : fitB B R c = true) (k : Nat) : fitB B R (c.take k) = true := by
  unfold fitB at h ⊢
  simp only [Bool.and_eq_true, decide_eq_true_eq] at h ⊢
  obtain ⟨h1, h2⟩ := h
  unfold buildB at h1 h2 ⊢
  by_cases hc : chkA c R = 0
  · rw [if_neg (by simpa using hc)] at h1 h2
    rw [if_neg (by simpa using chkA_take2 hc k)]
    split at h1
    · cases h1
    · rename_i hl
      rw [if_neg hl] at h2
      have hle : (blkB R.toNat (c.take k)).length ≤ (blkB R.toNat c).length := blkB_take_le _ _ _
      rw [if_neg (by omega)]
      exact ⟨rfl, by simp only at h2 ⊢; omega⟩
  · rw [if_pos (by simpa using hc)] at h1
    exact absurd h1 hc
theorem fit_enters : ∀ (args : Array Value) (w : World), (callFunc 46 args).run Try.prog w = .ok (.enter 46 args) w := enters_of Try.func46 (by kernel_rfl) rfl
set_option maxRecDepth 100000 in
set_option maxHeartbeats 4000000 in
theorem fit_clo {a : Option Addr} {n c b o : Nat} {l : List Rw} {u : World} (h : Rs a n c b o l u) (B R K : Int) (g : Nat) (hg : OptAt g B R K u) :
    Calls Try.prog 46 #[.slice a n c, .pointer (some ⟨g, 0, none⟩)] u fun e u' => e = .returned (.bool (fitB B R l)) ∧ Below u.heap.size u u' := by
  obtain ⟨c0, c1, c2⟩ := hg.cells
  have BC := Lib.hid (build_any R h)
  unfold fitB
  have hl : (buildB l R).1.length ≤ 65536 := by
    unfold buildB
    split
    · simp
    · split
      · simp
      · simp only; omega
  obtain ⟨⟨S, E⟩, hS⟩ := named (buildB l R)
  rw [← hS.out] at BC hl ⊢
  simp only at BC hl ⊢
  have G0 := Lib.hid hg
  clear h hg hS
  by_cases hE : E = 0
  · subst hE
    obtain ⟨T, hT⟩ := named (decide ((S.length : Int) ≤ B))
    rw [← hT.out]
    have hT2 : decide ((S.length : Int) ≤ B) = T := hT.out.symm
    go_enter Try.func46, Try.ntmps46
    go_wp2_with (go_at_call 24; ((with_reducible refine BC.out.mono ?_); rintro e w1 ⟨rfl, hb1⟩; obtain ⟨d0, d1, d2⟩ := (G0.out.below hb1).cells))
    go_returns
    exact ⟨by simp, hb1⟩
  · have k1 : ((E : Int) == 0) = false := by rw [beq_eq_false_iff_ne]; omega
    have k2 : (E == 0) = false := by rw [beq_eq_false_iff_ne]; exact hE
    have k3 : decide (E = 0) = false := decide_eq_false hE
    rw [k3]
    replace hE := Lib.hid hE
    go_enter Try.func46, Try.ntmps46
    go_wp2_with (go_at_call 24; ((with_reducible refine BC.out.mono ?_); rintro e w1 ⟨rfl, hb1⟩; obtain ⟨d0, d1, d2⟩ := (G0.out.below hb1).cells))
    go_returns
    exact ⟨rfl, hb1⟩
end Go.Proofs.Ytmjakkemiiigpaa
/-
  What stands while a loop over a function goes on: all blocks of cells; what an append to a boxed row leaves. No condition.
-/
namespace Go.Proofs.Ytmjakkemiiigpaa
set_option maxRecDepth 100000
open Go.RowKit
/-- All blocks of cells stand. -/
def Stays (W W' : World) : Prop := W.heap.size ≤ W'.heap.size ∧ ∀ (k : Nat) (cs : Array Value) (t : TypeId) (m : Nat × Nat), W.heap[k]? = some (.cells cs t m) → W'.heap[k]? = some (.cells cs t m)
theorem Stays.of_below {W W' : World} (h : Below W.heap.size W W') : Stays W W' := ⟨h.size, fun k cs t m hk => (h.block k (Array.getElem?_eq_some_iff.1 hk).1).trans hk⟩
theorem stays_own {W W' : World} {row : Option Nat} (hg : W.grownBy W' row) (hr : ∀ r, row = some r → ∃ o : Obj, W.heap[r]? = some o ∧ o.isCells = false) : Stays W W' := ⟨hg.size, fun k cs t m hk => (hg.block k (Array.getElem?_eq_some_iff.1 hk).1 fun e => by
  obtain ⟨o, ho, hc⟩ := hr k e.symm
  rw [hk] at ho; cases ho; cases hc).trans hk⟩
theorem ownsRow_stays {W W' : World} {N : Nat} {e : TypeId} {sz k : Nat} {v : Value} {xs : List Value} (h : W.ownsRow N e sz v k xs) (hs : Stays W W') : W'.ownsRow N e sz v k xs := by
  refine ⟨h.1, ?_⟩
  rcases h.2 with h2 | ⟨g, cap, cur, h2, h3, h4, h5⟩
  · exact .inl h2
  · exact .inr ⟨g, cap, cur, h2, h3, hs.2 _ _ _ _ h4, h5⟩
theorem Stays.box {W W' : World} (hs : Stays W W') {k : Nat} {t : TypeId} {v : Value} (h : Boxed W k t v) : Boxed W' k t v := hs.2 _ _ _ _ h
theorem keeps_below {W W' : World} (h : Below W.heap.size W W') : KeepsOthers W W' := ⟨h.size, fun k o hk _ => (h.block k (Array.getElem?_eq_some_iff.1 hk).1).trans hk⟩
theorem own_shape {W : World} {N sz k : Nat} {e : TypeId} {v : Value} {xs : List Value} (h : W.ownsRow N e sz v k xs) : ∃ q1 q2 q3, v = .slice q1 q2 q3 := by
  rcases h.2 with ⟨rfl, _⟩ | ⟨g, cap, cur, rfl, _⟩
  · exact ⟨_, _, _, rfl⟩
  · exact ⟨_, _, _, rfl⟩
theorem ownsRow_putObj {W : World} {D B sz k : Nat} {e : TypeId} {v : Value} {xs : List Value} {o : Obj} (h : W.ownsRow B e sz v k xs) (o' : Obj) (hl : W.heap[D]? = some o) (ho : o.isCells = false) : (W.putObj D o').ownsRow B e sz v k xs :=
  ownsRow_stays h (stays_own (grownBy_putObj' W D o') (fun r e => by cases e; exact ⟨o, hl, ho⟩))
/-- Behind an append to a boxed row and the store of it: every block of cells but the box and the row. -/
theorem stays_appended {W w1 : World} {N sz m B k : Nat} {e t : TypeId} {v u : Value} {xs : List Value} {tmp : Obj} {cs : Array Value} {fr : Nat × Nat} (hr : W.ownsRow N e sz v m xs) (hgrow : (W.alloc tmp).grownBy w1 v.ownBlock) (hk : W.heap[k]? = some (.cells cs t fr)) (hne : k ≠ B) (ht : t ≠ e) :
    (w1.setCell ⟨B, 0, none⟩ u).heap[k]? = some (.cells cs t fr) := by
  have lt := (Array.getElem?_eq_some_iff.1 hk).1
  rw [heap_setCell_other _ _ _ _ hne]
  refine (hgrow.block k (by rw [World.size_alloc]; omega) fun e => ?_).trans ((Below.heap_alloc W tmp k lt).trans hk)
  rcases hr.2 with ⟨rfl, _⟩ | ⟨g, cap, cur, rfl, _, hgb, _⟩
  · simp [Value.ownBlock] at e
  · simp only [Value.ownBlock, Option.some.injEq] at e
    subst e
    rw [hk] at hgb; cases hgb; exact ht rfl
end Go.Proofs.Ytmjakkemiiigpaa
/-
  What stands while data blocks are put together. No condition.
-/
namespace Go.Proofs.Ytmjakkemiiigpaa
set_option maxRecDepth 100000
open Go.RowKit
theorem bld_stays {W W' : World} {N b : Nat} {l : List UInt8} (h : Bld N b l W) (hs : Stays W W') : Bld N b l W' := by
  have K : ∀ p, Lib.BuilderAt 93 5 N b p (Lib.byteCells l) W → Lib.BuilderAt 93 5 N b p (Lib.byteCells l) W' := fun p h => by
    obtain ⟨hB, v, hbk, hown, hne⟩ := h
    exact ⟨hB, v, hs.2 _ _ _ _ hbk, ownsRow_stays hown hs, hne⟩
  rcases h with h | h
  · exact .inl (K _ h)
  · exact .inr (K _ h)
/-- The whole of it: N is where the call's own blocks begin. -/
structure DB (w : World) (N : Nat) (G : FuncId) (B R K : Int) (n c b o : Nat) (l es : List Rw) (text : List UInt8) (W : World) : Prop where
  opt : OptAt N B R K W
  r4 : Boxed W (N + 1) 9 (.string ⟨#[]⟩)
  r5 : ∃ v, Boxed W (N + 2) 22 v ∧ W.ownsRow N 39 4 v es.length (rowR es)
  r6 : Boxed W (N + 3) 27 (.int .i64 0)
  bld : Bld N (N + 4) text W
  fit : Boxed W (N + 6) 81 (.func (.func G) #[] #[.pointer (some ⟨N, 0, none⟩)])
  rs : 0 < n → Rs (some ⟨b, o, none⟩) n c b o l W
  below : Below N w W
  big : N + 7 ≤ W.heap.size
theorem Rs.stays {n c b o : Nat} {l : List Rw} {w W W' : World} {N : Nat} (h : Rs (some ⟨b, o, none⟩) n c b o l W) (hb : W'.heap[b]? = W.heap[b]?) (hs : W.heap.size ≤ W'.heap.size) : Rs (some ⟨b, o, none⟩) n c b o l W' := h.keep (fun _ => hb) hs
theorem DB.stays {w : World} {N : Nat} {G : FuncId} {B R K : Int} {n c b o : Nat} {l es : List Rw} {text : List UInt8} {W W' : World} (h : DB w N G B R K n c b o l es text W) (hb : 0 < n → b < N) (hs : Stays W W') (hB : Below N W W') : DB w N G B R K n c b o l es text W' := by
  obtain ⟨v, h5, h6⟩ := h.r5
  have hz := h.below.size
  have hbig := h.big
  exact ⟨hs.2 _ _ _ _ h.opt, hs.2 _ _ _ _ h.r4, ⟨v, hs.2 _ _ _ _ h5, ownsRow_stays h6 hs⟩, hs.2 _ _ _ _ h.r6, bld_stays h.bld hs, hs.2 _ _ _ _ h.fit, fun h0 => (h.rs h0).keep (fun _ => hB.block b (hb h0)) hs.1, h.below.trans hB, Nat.le_trans h.big hs.1⟩
theorem DB.grow {w : World} {N : Nat} {G : FuncId} {B R K : Int} {n c b o : Nat} {l es : List Rw} {text : List UInt8} {W W' : World} (h : DB w N G B R K n c b o l es text W) (hb : 0 < n → b < N) (hB : Below W.heap.size W W') : DB w N G B R K n c b o l es text W' :=
  h.stays hb (Stays.of_below hB) (hB.mono (by have := h.big; omega))
/-- Behind a write into the builder. -/
theorem DB.wrote {w : World} {N : Nat} {G : FuncId} {B R K : Int} {n c b o : Nat} {l es : List Rw} {text t2 : List UInt8} {W W' : World} (h : DB w N G B R K n c b o l es text W) (hb : 0 < n → b < N) (h1 : Bld N (N + 4) t2 W') (hB : Below N W W') (hS : Spares (N + 4) W W') : DB w N G B R K n c b o l es t2 W' := by
  have big := h.big
  have K1 : ∀ {k : Nat} {cs : Array Value} {t : TypeId} {m : Nat × Nat}, W.heap[k]? = some (.cells cs t m) → k ≠ N + 4 → t ≠ 5 → W'.heap[k]? = some (.cells cs t m) := fun hk hne ht => (hS.2 _ (Array.getElem?_eq_some_iff.1 hk).1 hne (fun cs' m' e => by rw [hk] at e; cases e; exact ht rfl)).trans hk
  obtain ⟨v, h5, h6⟩ := h.r5
  refine ⟨K1 h.opt (by omega) (by decide), K1 h.r4 (by omega) (by decide), ⟨v, K1 h5 (by omega) (by decide), ⟨h6.1, ?_⟩⟩, K1 h.r6 (by omega) (by decide), h1, K1 h.fit (by omega) (by decide), fun h0 => (h.rs h0).keep (fun _ => hB.block b (hb h0)) hS.1, h.below.trans hB, Nat.le_trans big hS.1⟩
  rcases h6.2 with e | ⟨g, cap, cur, e1, e2, e3, e4⟩
  · exact .inl e
  · refine .inr ⟨g, cap, cur, e1, e2, K1 e3 ?_ (by decide), e4⟩
    rintro rfl
    obtain ⟨cs, hcs⟩ := h.bld.at'
    rw [e3] at hcs; cases hcs
theorem keeps_spares {W W' : World} {b : Nat} (h : Spares b W W') (hb : ∃ cs, W.heap[b]? = some (.cells cs 93 (0, 0))) : KeepsOthers W W' := ⟨h.1, fun k o hk ho => (h.2 k (Array.getElem?_eq_some_iff.1 hk).1 (by
    rintro rfl
    obtain ⟨cs, hcs⟩ := hb
    rw [hk] at hcs; cases hcs; cases ho) (fun cs m e => by rw [hk] at e; cases e; cases ho)).trans hk⟩
/-- Behind an append to the entries and the store of it. -/
theorem DB.appended {w : World} {N : Nat} {G : FuncId} {B R K : Int} {n c b o : Nat} {l es : List Rw} {text : List UInt8} {W w1 : World} (h : DB w N G B R K n c b o l es text W) (hb : 0 < n → b < N) (x : Rw) {v v' : Value} {tmp : Obj} (hv : Boxed W (N + 2) 22 v) (hr : W.ownsRow N 39 4 v es.length (rowR es))
    (hown : w1.ownsRow N 39 4 v' (es.length + 1) (rowR (es ++ [x]))) (hgrow : (W.alloc tmp).grownBy w1 v.ownBlock) :
    DB w N G B R K n c b o l (es ++ [x]) text (w1.setCell ⟨N + 2, 0, none⟩ v') ∧ KeepsOthers W (w1.setCell ⟨N + 2, 0, none⟩ v') ∧ Below N W (w1.setCell ⟨N + 2, 0, none⟩ v') := by
  have big := h.big
  have hsz : N ≤ W.heap.size := by omega
  obtain ⟨a1, a2, a3, a4, a5⟩ := hv.appended (by decide) hr hsz (by omega) hown hgrow
  have K1 : ∀ {k : Nat} {cs : Array Value} {t : TypeId} {m : Nat × Nat}, W.heap[k]? = some (.cells cs t m) → k ≠ N + 2 → t ≠ 39 → (w1.setCell ⟨N + 2, 0, none⟩ v').heap[k]? = some (.cells cs t m) := fun {k cs t m} hk hne ht => by
    have lt := (Array.getElem?_eq_some_iff.1 hk).1
    rw [heap_setCell_other _ _ _ _ hne]
    refine (hgrow.block k (by rw [World.size_alloc]; omega) fun e => ?_).trans ((Below.heap_alloc W tmp k lt).trans hk)
    rcases hr.2 with ⟨rfl, _⟩ | ⟨g, cap, cur, rfl, _, hgb, _⟩
    · simp [Value.ownBlock] at e
    · simp only [Value.ownBlock, Option.some.injEq] at e
      subst e
      rw [hk] at hgb; cases hgb; exact ht rfl
  refine ⟨⟨K1 h.opt (by omega) (by decide), K1 h.r4 (by omega) (by decide), ⟨v', a2, by rw [List.length_append]; exact a3⟩, K1 h.r6 (by omega) (by decide), ?_, K1 h.fit (by omega) (by decide), fun h0 => (h.rs h0).keep (fun _ => a5.block b (hb h0)) a5.size, h.below.trans a5, Nat.le_trans big a5.size⟩, a4, a5⟩
  have KB : ∀ p, Lib.BuilderAt 93 5 N (N + 4) p (Lib.byteCells text) W → Lib.BuilderAt 93 5 N (N + 4) p (Lib.byteCells text) (w1.setCell ⟨N + 2, 0, none⟩ v') := fun p h => by
    obtain ⟨hB, u, hbk, hown2, hne⟩ := h
    refine ⟨hB, u, K1 hbk (by omega) (by decide), ⟨hown2.1, ?_⟩, hne⟩
    rcases hown2.2 with e | ⟨g, cap, cur, e1, e2, e3, e4⟩
    · exact .inl e
    · refine .inr ⟨g, cap, cur, e1, e2, K1 e3 ?_ (by decide), e4⟩
      rintro rfl
      rw [show W.heap[N + 2]? = _ from hv] at e3; cases e3
  rcases h.bld with h | h
  · exact .inl (KB _ h)
  · exact .inr (KB _ h)
/-- The rows of one data block. -/
def chunk (l : List Rw) (x : Nat × Nat) : List Rw := (l.drop x.1).take x.2
/-- The frames of the data blocks. -/
def dtx (l : List Rw) (R : Int) (pre : List (Nat × Nat)) : List UInt8 := pre.flatMap fun x => Frame.put (buildB (chunk l x) R).1
/-- The rows of the index. -/
def entG (l : List Rw) (R : Int) : Nat → List (Nat × Nat) → List Rw
  | _, [] => []
  | off, x :: r => enRow (enOf (chunk l x)) off :: entG l R (off + (Frame.put (buildB (chunk l x) R).1).length) r
theorem dtx_snoc (l : List Rw) (R : Int) (pre : List (Nat × Nat)) (x : Nat × Nat) : dtx l R (pre ++ [x]) = dtx l R pre ++ Frame.put (buildB (chunk l x) R).1 := by simp [dtx]
theorem entG_snoc (l : List Rw) (R : Int) (x : Nat × Nat) : ∀ (off : Nat) (pre : List (Nat × Nat)), entG l R off (pre ++ [x]) = entG l R off pre ++ [enRow (enOf (chunk l x)) (off + (dtx l R pre).length)]
  | off, [] => by simp [entG, dtx]
  | off, y :: r => by
    rw [List.cons_append, entG, entG_snoc l R x, entG, List.cons_append]
    have : off + (Frame.put (buildB (chunk l y) R).1).length + (dtx l R r).length = off + (dtx l R (y :: r)).length := by simp [dtx]; omega
    rw [this]
theorem entG_len (l : List Rw) (R : Int) : ∀ (off : Nat) (pre : List (Nat × Nat)), (entG l R off pre).length = pre.length
  | _, [] => rfl
  | off, y :: r => by rw [entG, List.length_cons, List.length_cons, entG_len]
/-- What has come is the beginning of the division. -/
def Divs (n : Nat) (P : Nat → Nat → Bool) (pre : List (Nat × Nat)) : Prop := ∀ i x, pre[i]? = some x → NextPart n P (pre.take i) x
theorem divs_nil (n : Nat) (P : Nat → Nat → Bool) : Divs n P [] := fun i x h => by simp at h
theorem divs_snoc {n : Nat} {P : Nat → Nat → Bool} {pre : List (Nat × Nat)} {x : Nat × Nat} (h : Divs n P pre) (hx : NextPart n P pre x) : Divs n P (pre ++ [x]) := fun i y hy => by
  rcases Nat.lt_trichotomy i pre.length with h1 | h1 | h1
  · rw [List.getElem?_append_left h1] at hy
    rw [List.take_append_of_le_length (by omega)]
    exact h i y hy
  · subst h1
    rw [List.getElem?_append_right (Nat.le_refl _), Nat.sub_self] at hy
    simp only [List.getElem?_cons_zero, Option.some.injEq] at hy
    subst hy
    rw [List.take_append_of_le_length (Nat.le_refl _), List.take_length]
    exact hx
  · rw [List.getElem?_eq_none (by rw [List.length_append]; simp; omega)] at hy; cases hy
/-- One division begins the other. -/
theorem divs_one {n : Nat} {P : Nat → Nat → Bool} {p q : List (Nat × Nat)} (hp : Divs n P p) (hq : Divs n P q) (hle : p.length ≤ q.length) : p = q.take p.length := by
  have : ∀ i, i ≤ p.length → p.take i = q.take i := by
    intro i
    induction i with
    | zero => intro _; simp
    | succ i ih =>
      intro hi
      have e := ih (by omega)
      have hx : p[i]? = some p[i] := List.getElem?_eq_getElem (by omega)
      have hy : q[i]? = some q[i] := List.getElem?_eq_getElem (by omega)
      have n1 := hp i _ hx
      have n2 := hq i _ hy
      rw [e] at n1
      rw [List.take_add_one, List.take_add_one, e, hx, hy]
      obtain ⟨x1, x2, x3⟩ := n1
      obtain ⟨y1, y2, y3⟩ := n2
      have e1 : p[i].1 = q[i].1 := by rw [x1, y1]
      rw [e1] at x3
      have e2 := x3.one y3
      have : p[i] = q[i] := Prod.ext e1 e2
      rw [this]
  have := this p.length (Nat.le_refl _)
  rwa [List.take_length] at this
theorem divs_prefix {n : Nat} {P : Nat → Nat → Bool} {p q : List (Nat × Nat)} (hp : Divs n P p) (hq : Divs n P q) (ht : tot q = n) : ∃ t, q = p ++ t := by
  rcases Nat.lt_or_ge q.length p.length with h | h
  · have e := divs_one hq hp (Nat.le_of_lt h)
    obtain ⟨h1, h2, _⟩ := hp q.length p[q.length] (List.getElem?_eq_getElem h)
    rw [← e] at h1
    omega
  · exact ⟨q.drop p.length, by
      have := divs_one hp hq h
      conv => lhs; rw [← List.take_append_drop p.length q, ← this]⟩
theorem dtx_app (l : List Rw) (R : Int) (p q : List (Nat × Nat)) : dtx l R (p ++ q) = dtx l R p ++ dtx l R q := by simp [dtx]
theorem tot_app (p q : List (Nat × Nat)) : tot (p ++ q) = tot p + tot q := by simp [tot]
theorem divs_len {n : Nat} {P : Nat → Nat → Bool} : ∀ {p : List (Nat × Nat)}, Divs n P p → p.length ≤ tot p := by
  intro p hp
  have : ∀ i, i ≤ p.length → i ≤ tot (p.take i) := by
    intro i
    induction i with
    | zero => intro _; omega
    | succ i ih =>
      intro hi
      have hx : p[i]? = some p[i] := List.getElem?_eq_getElem (by omega)
      obtain ⟨_, _, h3, _⟩ := hp i _ hx
      have := ih (by omega)
      rw [List.take_add_one, hx, tot_app]
      simp [tot] at *
      omega
  have := this p.length (Nat.le_refl _)
  rwa [List.take_length] at this
theorem rd_own {W w9 : World} {N b : Nat} {l : List UInt8} (hb : Bld N b l W) (hr : Rd b W.drew w9) {k : Nat} {o : Obj} (hk : W.heap[k]? = some o) (ho : ∀ cs, o ≠ .cells cs 5 (0, 0)) : w9.heap[k]? = some o := by
  obtain ⟨v, h1, h2, h3⟩ := hb.own
  refine (hr.2 v h1 k (Array.getElem?_eq_some_iff.1 hk).1 (fun e => ?_)).trans hk
  obtain ⟨_, cs, hcs⟩ := h3 k e
  rw [hk] at hcs
  exact ho cs (Option.some.inj hcs)
theorem rd_keep {W w9 : World} {N b : Nat} {l : List UInt8} (hb : Bld N b l W) (hr : Rd b W.drew w9) {k : Nat} {cs : Array Value} {t : TypeId} {m : Nat × Nat} (hk : W.heap[k]? = some (.cells cs t m)) (ht : t ≠ 5) : w9.heap[k]? = some (.cells cs t m) := rd_own hb hr hk (fun cs' e => by cases e; exact ht rfl)
theorem rd_row {W w9 : World} {N b B sz k : Nat} {l : List UInt8} {e : TypeId} {v : Value} {xs : List Value} (hb : Bld N b l W) (hr : Rd b W.drew w9) (h : W.ownsRow B e sz v k xs) (ht : e ≠ 5) : w9.ownsRow B e sz v k xs := by
  refine ⟨h.1, ?_⟩
  rcases h.2 with h2 | ⟨g, cap, cur, h2, h3, h4, h5⟩
  · exact .inl h2
  · exact .inr ⟨g, cap, cur, h2, h3, rd_keep hb hr h4 ht, h5⟩
theorem rd_def {W w9 : World} {N b D : Nat} {l : List UInt8} {x : Option (List Deferred)} (hb : Bld N b l W) (hr : Rd b W.drew w9) (hk : W.heap[D]? = some (.deferred x)) : w9.heap[D]? = some (.deferred x) := rd_own hb hr hk (fun cs e => by cases e)
end Go.Proofs.Ytmjakkemiiigpaa
/-
  A region that draws its order in a round of a loop over a function: it goes as it goes anywhere. No condition but that it defers nothing.
-/
namespace Go.Proofs.Ytmjakkemiiigpaa
set_option maxRecDepth 100000
open Go
theorem oper_round {l n : Nat} {P : Program} {o : Oper} {a : Act} {w : World} {K : Act → World → Prop} {Q : Exit → Act → World → Prop} (hd : ∀ c, o.op ≠ .defer c) (h : o.wp P a w K Q) : o.wpIn (Fence.wide.inRound l) n P a w K Q := by
  refine ⟨fun f _ => trivial, ?_⟩
  rw [Oper.semAt_eq _ _ _ hd]
  unfold Oper.wp at h
  generalize (execOp a.eval o).run P w = r at *
  have hn : ∀ {X : Prop}, (Fence.wide.inRound l).depth.isSome = true → X := fun h => by cases h
  cases r with
  | ok x w' =>
    cases x with
    | enter f args => exact ⟨hn, CallsIn.inRound l (callsIn_wide.2 h)⟩
    | row row args => exact ⟨hn, fun c cs _ => let ⟨v, w', r, s⟩ := h c cs; ⟨v, w', r, stepsIn_wide.2 s⟩⟩
    | value v => exact h
    | skip => exact h
    | defer d => exact h
    | _ => exact h.elim
  | halt x w' => cases x <;> first | exact h | exact h.elim
theorem any_round {l n : Nat} {P : Program} {ops : Array Oper} {Q : Exit → Act → World → Prop} {md : Region.Mode} (hd : ∀ (i : Nat) o, ops[i]? = some o → ∀ c, o.op ≠ .defer c) (hQ : ¬ LetsOut Q) : ∀ (fuel : Nat) (listed : Array Bool) (a : Act) (w : World), wpAny P md ops Q fuel listed a w → wpAnyIn (Fence.wide.inRound l) n P md ops Q fuel listed a w
  | 0, listed, a, w, h => h
  | fuel + 1, listed, a, w, h => by
    refine ⟨h.1, fun i hi => ?_⟩
    have h2 := h.2 i hi
    unfold wpOp at h2
    unfold wpOpIn
    cases ho : ops[i]? with
    | none => simp only [ho] at h2 ⊢; exact any_round hd hQ fuel _ a w h2
    | some o =>
      simp only [ho] at h2 ⊢
      split
      · rename_i hw
        rw [if_pos hw] at h2
        rcases h2 with h2 | ⟨_, h2⟩
        · exact Oper.wpIn_mono (fun a w h => any_round hd hQ fuel _ a w h) (oper_round (hd i o ho) h2)
        · exact absurd h2 hQ
      · rename_i hw
        rw [if_neg hw] at h2
        exact ⟨fun f _ => trivial, any_round hd hQ fuel _ _ w h2⟩
/-- The rule: the region is walked as outside, by a condition that is held. -/
theorem round_held {l n id : Nat} {P : Program} {ops : Array Oper} {Q : Exit → Act → World → Prop} {S : World → Prop} {a : Act} {w : World} (hd : ∀ (i : Nat) o, ops[i]? = some o → ∀ c, o.op ≠ .defer c) (hQ : ¬ LetsOut Q) (hm : P.follows .mixedOrders = true) (hS : S w.drew)
    (h : S w.drew → wpAnyH P .any ops Q S ops.size (Array.replicate ops.size false) a w.drew) : (Code.region id ops true).wpIn (Fence.wide.inRound l) n P Q a w :=
  wpIn_region_any hm (any_round hd hQ _ _ _ _ (wpAny_of_held _ _ _ _ (h hS)))
/-- No operation defers. -/
def noDefer (ops : Array Oper) : Bool := ops.all fun o => match o.op with | .defer _ => false | _ => true
theorem noDefer_spec {ops : Array Oper} (h : noDefer ops = true) : ∀ (i : Nat) o, ops[i]? = some o → ∀ c, o.op ≠ .defer c := fun i o ho c hc => by
  unfold noDefer at h
  rw [Array.all_eq_true'] at h
  have := h o (Array.mem_of_getElem? ho)
  rw [hc] at this
  cases this
end Go.Proofs.Ytmjakkemiiigpaa
