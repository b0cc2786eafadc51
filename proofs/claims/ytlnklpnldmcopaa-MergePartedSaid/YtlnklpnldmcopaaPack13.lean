/-
  The contracts of byKeys and of its iterator. Condition: at most 1000000 rows.
-/
import Derived.Test.YtlnklpnldmcopaaPack12
import Derived.Shelf.Abstract
import Derived.Shelf.RegionOpen
import Derived.WalkKit
import Derived.OwnWalkIn
import Derived.TacticsInMore
import Derived.LoopNIn
import Derived.LoopIn
import Derived.RangeFuncWrites
import Derived.Test.YtlnklpnldmcopaaShelf
import Derived.Laws.Cover3
import Derived.OrdersHeld
import Derived.OrdersIn
import Derived.RangeFuncCalls
namespace Go.Proofs.Ytlnklpnldmcopaa
set_option maxRecDepth 100000
open Go.RowKit
attribute [local go_sem] Oper.semAt_some
/-- How many rows have come. -/
def totK (pre : List (Nat × Nat)) : Nat := (pre.map fun x => x.2).sum
theorem totK_snoc (pre : List (Nat × Nat)) (x : Nat × Nat) : totK (pre ++ [x]) = totK pre + x.2 := by simp [totK]
/-- What comes next: where it starts, and how many rows. -/
def NextRun (l : List Rw) (n : Nat) (pre : List (Nat × Nat)) (x : Nat × Nat) : Prop := x.1 = totK pre ∧ x.1 < n ∧ IsRun l x.1 x.2
def encRun (b o : Nat) (x : Nat × Nat) : Array Value := #[.slice (some ⟨b, o + x.1 * 4, none⟩) x.2 x.2]
theorem makes_funcM : ∀ (fn : Fn) (first cap : Array Value) (w : World), (Instr.makeFunc fn first cap).run Try.prog w = .ok (.func fn first cap) w := fun _ _ _ _ => rfl
theorem bykeys_any (a : Option Addr) (n c : Nat) (w : World) :
    Calls Try.prog 21 #[.slice a n c] w fun e w' => e = .returned (.func (.func 37) #[] #[.pointer (some ⟨w.heap.size, 0, none⟩)]) ∧ w' = w.alloc (.cells #[.slice a n c] 22) := by
  have hmf := makes_funcM
  go_enter Try.func21, Try.ntmps21
  go_wp2_with fail
  go_returns
  exact ⟨rfl, rfl⟩
theorem slr_three (b o n c k m : Nat) (hk : k < m) (hm : m ≤ c) (u : World) : (Instr.slice 22 (.slice (some ⟨b, o, none⟩) n c) (some (.int .i64 (k : Int))) (some (.int .i64 (m : Int))) (some (.int .i64 (m : Int)))).run Try.prog u = .ok (.slice (some ⟨b, o + k * 4, none⟩) (m - k) (m - k)) u := by
  rw [run_slice_lhm u 22 (some ⟨b, o, none⟩) n c (by kernel_rfl) .i64 .i64 .i64 (k : Int) (m : Int) (m : Int) (by omega) (by omega) (by omega) (by omega), size_rowB]
  simp only [Result.andThen, sliced, Int.toNat_natCast]
  rw [if_neg (by omega)]
  simp [addr_add]
set_option maxRecDepth 100000 in
set_option maxHeartbeats 8000000 in
/-- The iterator's contract. Q: what every round leaves true of the world: the rows stand, and the box. -/
theorem keys_until {n c b o : Nat} {l : List Rw} {a : Option Addr} (hn : n ≤ 1000000)
    (Q : World → Prop) (bl : Nat) (hQ : ∀ A C, Q A → Below A.heap.size A C → Q C) (hQc : ∀ A, Q A → A.cell? ⟨bl, 0, none⟩ = some (.slice a n c)) (hQr : ∀ A, Q A → Rs a n c b o l A) (B : Nat) (w : World) :
    SeqUntilW Try.prog 37 #[.pointer (some ⟨bl, 0, none⟩)] (encRun b o) B (NextRun l n) (fun _ A => Q A) (fun xs => totK xs = n) w := by
  intro L J Jx W hW hJ hJx hG hY h0
  refine callsIn_of_wp Try.func37 rfl trivial ?_ rfl
  simp only [Try.ntmps37, List.size_toArray, List.length_cons, List.length_nil, Nat.reduceAdd, Nat.reduceSub, Array.replicate_succ, Array.replicate_zero, List.push_toArray, List.append_toArray, List.nil_append, List.cons_append]
  gi_wp2
  gi_loopw [3, 4] (fun f u wr => ∃ pre : List (Nat × Nat), totK pre ≤ n ∧ f = .int .i64 (totK pre : Int) ∧ u = .int .i64 (totK pre : Int) ∧ J pre wr) (fun f _ _ => n - (intOf f).toNat)
  case atStart => exact ⟨[], Nat.zero_le _, rfl, rfl, h0⟩
  case round =>
    obtain ⟨pre, hk, rfl, rfl, hJs⟩ := hrel
    have hQs := hG pre wr hJs
    obtain ⟨k, hkk⟩ := named (totK pre)
    rw [← hkk.out] at hk ⊢
    have c0 := hQc wr hQs
    by_cases hlt : k < n
    · have hrs := hQr wr hQs
      obtain ⟨z, hz, rfl, z0, z1, z2, z3⟩ := hrs.at4 hlt
      have hcap := hrs.cap
      have hmost := hrs.most
      have hlen := hrs.len
      have k1 : (k : Int) < (n : Int) := by omega
      have hrs := Lib.hid hrs
      have hJs := Lib.hid hJs
      have hz := Lib.hid hz
      have hbs := World.block_lt_of_cell? _ _ z0
      obtain ⟨zk, zs, zi, zv⟩ := z
      simp only at z0 z1 z2 z3
      gi_wp2
      refine wpIn_wide.2 ?_
      go_loopw [4] (fun ud wq => ∃ u : Nat, k ≤ u ∧ u ≤ n ∧ ud = .int .i64 (u : Int) ∧ Hid (∀ (i : Nat) y, k ≤ i → i < u → l[i]? = some y → y.key.toList = zk.toList) ∧ Hid (Below wr.heap.size wr wq)) (fun ud _ => n - (intOf ud).toNat)
      case atStart => exact ⟨k, Nat.le_refl _, by omega, rfl, Lib.hid (fun i y h1 h2 => absurd h1 (by omega)), Lib.hid (Below.refl _ _)⟩
      case round =>
        obtain ⟨u, hku, hun, rfl, hsm, hbq⟩ := hrel
        have y9 := cell_keep hbq.out c0
        have y8 := cell_keep hbq.out z0
        by_cases hul : u < n
        · obtain ⟨y, hy, _, y0, y1, y2, y3⟩ := (hrs.out.below hbq.out (Nat.le_refl _)).at4 hul
          have u1 : (u : Int) < (n : Int) := by omega
          obtain ⟨yk, ys, yi, yv⟩ := y
          simp only at y0 y1 y2 y3
          have m2 := Lib.hid (show wr.drew.cell? ⟨bl, 0, none⟩ = some (.slice (some ⟨b, o, none⟩) n c) ∧ wr.drew.cell? ⟨b, o + k * 4, none⟩ = some (.string zk) ∧ wr.drew.cell? ⟨b, o + u * 4, none⟩ = some (.string yk) from ⟨y9, y8, y0⟩)
          have hB2 := Lib.hid hbq.out.drew
          have hy := Lib.hid hy
          clear y0 y1 y2 y3 y8 y9 z0 z1 z2 z3 c0
          by_cases hkey : yk.toList = zk.toList
          · have q1 : (yk.toList == zk.toList) = true := by simpa using hkey
            have hsm2 : Hid (∀ (i : Nat) y, k ≤ i → i < u + 1 → l[i]? = some y → y.key.toList = zk.toList) := Lib.hid (fun i x h1 h2 hx => by
              rcases Nat.lt_or_ge i u with h3 | h3
              · exact hsm.out i x h1 h3 hx
              · obtain rfl : i = u := by omega
                rw [hy.out] at hx; cases hx; exact hkey)
            clear hkey
            go_upto_region 3 with fail
            refine wp_region_held_drew (S := (fun v => v.cell? ⟨bl, 0, none⟩ = some (.slice (some ⟨b, o, none⟩) n c) ∧ v.cell? ⟨b, o + k * 4, none⟩ = some (.string zk) ∧ v.cell? ⟨b, o + u * 4, none⟩ = some (.string yk))) (by kernel_rfl) (m2.out) (fun hHeld => ?_)
            refine held_take (i := 0) (v := ?_) rfl (by kernel_rfl) (by kernel_rfl) (by kernel_rfl) (fun _ _ _ h => h) (by rfl) (fun w hSw => ?_) (by assumption) ?_; rotate_left 1; focus (((try dsimp only at hSw); first | (go_simp; done) | (go_simp; with_reducible rfl)))
            try simp only [Act.put, List.setIfInBounds_toArray, List.set_cons_zero, List.set_cons_succ]
            refine held_take (i := 1) (v := ?_) rfl (by kernel_rfl) (by kernel_rfl) (by kernel_rfl) (fun _ _ _ h => h) (by rfl) (fun w hSw => ?_) (by assumption) ?_; rotate_left 1; focus (((try dsimp only at hSw); first | (go_simp; done) | (go_simp; with_reducible rfl)))
            try simp only [Act.put, List.setIfInBounds_toArray, List.set_cons_zero, List.set_cons_succ]
            refine held_take (i := 2) (v := ?_) rfl (by kernel_rfl) (by kernel_rfl) (by kernel_rfl) (fun _ _ _ h => h) (by rfl) (fun w hSw => ?_) (by assumption) ?_; rotate_left 1; focus (((try dsimp only at hSw); first | (go_simp; done) | (go_simp; with_reducible rfl)))
            try simp only [Act.put, List.setIfInBounds_toArray, List.set_cons_zero, List.set_cons_succ]
            refine held_take (i := 3) (v := ?_) rfl (by kernel_rfl) (by kernel_rfl) (by kernel_rfl) (fun _ _ _ h => h) (by rfl) (fun w hSw => ?_) (by assumption) ?_; rotate_left 1; focus (((try dsimp only at hSw); first | (go_simp; done) | (go_simp; with_reducible rfl)))
            try simp only [Act.put, List.setIfInBounds_toArray, List.set_cons_zero, List.set_cons_succ]
            refine held_take (i := 4) (v := ?_) rfl (by kernel_rfl) (by kernel_rfl) (by kernel_rfl) (fun _ _ _ h => h) (by rfl) (fun w hSw => ?_) (by assumption) ?_; rotate_left 1; focus (((try dsimp only at hSw); first | (go_simp; done) | (go_simp; with_reducible rfl)))
            try simp only [Act.put, List.setIfInBounds_toArray, List.set_cons_zero, List.set_cons_succ]
            refine held_take (i := 5) (v := ?_) rfl (by kernel_rfl) (by kernel_rfl) (by kernel_rfl) (fun _ _ _ h => h) (by rfl) (fun w hSw => ?_) (by assumption) ?_; rotate_left 1; focus (((try dsimp only at hSw); first | (go_simp; done) | (go_simp; with_reducible rfl)))
            try simp only [Act.put, List.setIfInBounds_toArray, List.set_cons_zero, List.set_cons_succ]
            refine held_take (i := 6) (v := ?_) rfl (by kernel_rfl) (by kernel_rfl) (by kernel_rfl) (fun _ _ _ h => h) (by rfl) (fun w hSw => ?_) (by assumption) ?_; rotate_left 1; focus (((try dsimp only at hSw); first | (go_simp; done) | (go_simp; with_reducible rfl)))
            try simp only [Act.put, List.setIfInBounds_toArray, List.set_cons_zero, List.set_cons_succ]
            refine held_take (i := 7) (v := ?_) rfl (by kernel_rfl) (by kernel_rfl) (by kernel_rfl) (fun _ _ _ h => h) (by rfl) (fun w hSw => ?_) (by assumption) ?_; rotate_left 1; focus (((try dsimp only at hSw); first | (go_simp; done) | (go_simp; with_reducible rfl)))
            try simp only [Act.put, List.setIfInBounds_toArray, List.set_cons_zero, List.set_cons_succ]
            refine held_take (i := 8) (v := ?_) rfl (by kernel_rfl) (by kernel_rfl) (by kernel_rfl) (fun _ _ _ h => h) (by rfl) (fun w hSw => ?_) (by assumption) ?_; rotate_left 1; focus (((try dsimp only at hSw); first | (go_simp; done) | (go_simp; with_reducible rfl)))
            try simp only [Act.put, List.setIfInBounds_toArray, List.set_cons_zero, List.set_cons_succ]
            refine held_take (i := 9) (v := ?_) rfl (by kernel_rfl) (by kernel_rfl) (by kernel_rfl) (fun _ _ _ h => h) (by rfl) (fun w hSw => ?_) (by assumption) ?_; rotate_left 1; focus (((try dsimp only at hSw); first | (go_simp; done) | (go_simp; with_reducible rfl)))
            try simp only [Act.put, List.setIfInBounds_toArray, List.set_cons_zero, List.set_cons_succ]
            refine held_take (i := 10) (v := ?_) rfl (by kernel_rfl) (by kernel_rfl) (by kernel_rfl) (fun _ _ _ h => h) (by rfl) (fun w hSw => ?_) (by assumption) ?_; rotate_left 1; focus (((try dsimp only at hSw); first | (go_simp; done) | (go_simp; with_reducible rfl)))
            try simp only [Act.put, List.setIfInBounds_toArray, List.set_cons_zero, List.set_cons_succ]
            refine held_take (i := 11) (v := ?_) rfl (by kernel_rfl) (by kernel_rfl) (by kernel_rfl) (fun _ _ _ h => h) (by rfl) (fun w hSw => ?_) (by assumption) ?_; rotate_left 1; focus (((try dsimp only at hSw); first | (go_simp; done) | (go_simp; with_reducible rfl)))
            try simp only [Act.put, List.setIfInBounds_toArray, List.set_cons_zero, List.set_cons_succ]
            refine held_take (i := 12) (v := ?_) rfl (by kernel_rfl) (by kernel_rfl) (by kernel_rfl) (fun _ _ _ h => h) (by rfl) (fun w hSw => ?_) (by assumption) ?_; rotate_left 1; focus (((try dsimp only at hSw); first | (go_simp; done) | (go_simp; with_reducible rfl)))
            try simp only [Act.put, List.setIfInBounds_toArray, List.set_cons_zero, List.set_cons_succ]
            refine held_take (i := 13) (v := ?_) rfl (by kernel_rfl) (by kernel_rfl) (by kernel_rfl) (fun _ _ _ h => h) (by rfl) (fun w hSw => ?_) (by assumption) ?_; rotate_left 1; focus (((try dsimp only at hSw); first | (go_simp; done) | (go_simp; with_reducible rfl)))
            try simp only [Act.put, List.setIfInBounds_toArray, List.set_cons_zero, List.set_cons_succ]
            refine held_take (i := 14) (v := ?_) rfl (by kernel_rfl) (by kernel_rfl) (by kernel_rfl) (fun _ _ _ h => h) (by rfl) (fun w hSw => ?_) (by assumption) ?_; rotate_left 1; focus (((try dsimp only at hSw); first | (go_simp; done) | (go_simp; with_reducible rfl)))
            try simp only [Act.put, List.setIfInBounds_toArray, List.set_cons_zero, List.set_cons_succ]
            refine held_take (i := 15) (v := ?_) rfl (by kernel_rfl) (by kernel_rfl) (by kernel_rfl) (fun _ _ _ h => h) (by rfl) (fun w hSw => ?_) (by assumption) ?_; rotate_left 1; focus (((try dsimp only at hSw); first | (go_simp; done) | (go_simp; with_reducible rfl)))
            try simp only [Act.put, List.setIfInBounds_toArray, List.set_cons_zero, List.set_cons_succ]
            refine held_take (i := 16) (v := ?_) rfl (by kernel_rfl) (by kernel_rfl) (by kernel_rfl) (fun _ _ _ h => h) (by rfl) (fun w hSw => ?_) (by assumption) ?_; rotate_left 1; focus (((try dsimp only at hSw); first | (go_simp; done) | (go_simp; with_reducible rfl)))
            try simp only [Act.put, List.setIfInBounds_toArray, List.set_cons_zero, List.set_cons_succ]
            refine wpAnyH_done (by kernel_rfl) ?_ _
            go_wp2_with fail
            go_roundw
            case rel => exact ⟨u + 1, by omega, by omega, by go_num, hsm2, hB2⟩
            case measure => simp [intOf]; omega
          · have q1 : (yk.toList == zk.toList) = false := by simpa using hkey
            have hrun : Hid (NextRun l n pre (k, u - k)) := Lib.hid (by
              have hne : k ≠ u := by
                intro e; subst e
                rw [hz.out] at hy
                have := hy.out
                simp only [Option.some.injEq, Rw.mk.injEq] at this
                exact hkey (by rw [this.1])
              refine ⟨hkk.out, hlt, by omega, by show k + (u - k) ≤ l.length; omega, fun i x y hi hx hy2 => ?_, fun x y2 hx hy2 => ?_⟩
              · rw [hz.out] at hx; cases hx
                exact hsm.out _ y (by omega) (by show k + i < u; simp only at hi; omega) hy2
              · simp only at hy2 hx
                rw [show k + (u - k) = u by omega, hy.out] at hy2
                rw [hz.out] at hx; cases hx; cases hy2
                exact hkey)
            have huk : k < u := by have := hrun.out.2.2.pos; simp only at this; omega
            clear hkey
            go_upto_region 3 with fail
            refine wp_region_held_drew (S := (fun v => v.cell? ⟨bl, 0, none⟩ = some (.slice (some ⟨b, o, none⟩) n c) ∧ v.cell? ⟨b, o + k * 4, none⟩ = some (.string zk) ∧ v.cell? ⟨b, o + u * 4, none⟩ = some (.string yk))) (by kernel_rfl) (m2.out) (fun hHeld => ?_)
            refine held_take (i := 0) (v := ?_) rfl (by kernel_rfl) (by kernel_rfl) (by kernel_rfl) (fun _ _ _ h => h) (by rfl) (fun w hSw => ?_) (by assumption) ?_; rotate_left 1; focus (((try dsimp only at hSw); first | (go_simp; done) | (go_simp; with_reducible rfl)))
            try simp only [Act.put, List.setIfInBounds_toArray, List.set_cons_zero, List.set_cons_succ]
            refine held_take (i := 1) (v := ?_) rfl (by kernel_rfl) (by kernel_rfl) (by kernel_rfl) (fun _ _ _ h => h) (by rfl) (fun w hSw => ?_) (by assumption) ?_; rotate_left 1; focus (((try dsimp only at hSw); first | (go_simp; done) | (go_simp; with_reducible rfl)))
            try simp only [Act.put, List.setIfInBounds_toArray, List.set_cons_zero, List.set_cons_succ]
            refine held_take (i := 2) (v := ?_) rfl (by kernel_rfl) (by kernel_rfl) (by kernel_rfl) (fun _ _ _ h => h) (by rfl) (fun w hSw => ?_) (by assumption) ?_; rotate_left 1; focus (((try dsimp only at hSw); first | (go_simp; done) | (go_simp; with_reducible rfl)))
            try simp only [Act.put, List.setIfInBounds_toArray, List.set_cons_zero, List.set_cons_succ]
            refine held_take (i := 3) (v := ?_) rfl (by kernel_rfl) (by kernel_rfl) (by kernel_rfl) (fun _ _ _ h => h) (by rfl) (fun w hSw => ?_) (by assumption) ?_; rotate_left 1; focus (((try dsimp only at hSw); first | (go_simp; done) | (go_simp; with_reducible rfl)))
            try simp only [Act.put, List.setIfInBounds_toArray, List.set_cons_zero, List.set_cons_succ]
            refine held_take (i := 4) (v := ?_) rfl (by kernel_rfl) (by kernel_rfl) (by kernel_rfl) (fun _ _ _ h => h) (by rfl) (fun w hSw => ?_) (by assumption) ?_; rotate_left 1; focus (((try dsimp only at hSw); first | (go_simp; done) | (go_simp; with_reducible rfl)))
            try simp only [Act.put, List.setIfInBounds_toArray, List.set_cons_zero, List.set_cons_succ]
            refine held_take (i := 5) (v := ?_) rfl (by kernel_rfl) (by kernel_rfl) (by kernel_rfl) (fun _ _ _ h => h) (by rfl) (fun w hSw => ?_) (by assumption) ?_; rotate_left 1; focus (((try dsimp only at hSw); first | (go_simp; done) | (go_simp; with_reducible rfl)))
            try simp only [Act.put, List.setIfInBounds_toArray, List.set_cons_zero, List.set_cons_succ]
            refine held_take (i := 6) (v := ?_) rfl (by kernel_rfl) (by kernel_rfl) (by kernel_rfl) (fun _ _ _ h => h) (by rfl) (fun w hSw => ?_) (by assumption) ?_; rotate_left 1; focus (((try dsimp only at hSw); first | (go_simp; done) | (go_simp; with_reducible rfl)))
            try simp only [Act.put, List.setIfInBounds_toArray, List.set_cons_zero, List.set_cons_succ]
            refine held_take (i := 7) (v := ?_) rfl (by kernel_rfl) (by kernel_rfl) (by kernel_rfl) (fun _ _ _ h => h) (by rfl) (fun w hSw => ?_) (by assumption) ?_; rotate_left 1; focus (((try dsimp only at hSw); first | (go_simp; done) | (go_simp; with_reducible rfl)))
            try simp only [Act.put, List.setIfInBounds_toArray, List.set_cons_zero, List.set_cons_succ]
            refine held_take (i := 8) (v := ?_) rfl (by kernel_rfl) (by kernel_rfl) (by kernel_rfl) (fun _ _ _ h => h) (by rfl) (fun w hSw => ?_) (by assumption) ?_; rotate_left 1; focus (((try dsimp only at hSw); first | (go_simp; done) | (go_simp; with_reducible rfl)))
            try simp only [Act.put, List.setIfInBounds_toArray, List.set_cons_zero, List.set_cons_succ]
            refine held_take (i := 9) (v := ?_) rfl (by kernel_rfl) (by kernel_rfl) (by kernel_rfl) (fun _ _ _ h => h) (by rfl) (fun w hSw => ?_) (by assumption) ?_; rotate_left 1; focus (((try dsimp only at hSw); first | (go_simp; done) | (go_simp; with_reducible rfl)))
            try simp only [Act.put, List.setIfInBounds_toArray, List.set_cons_zero, List.set_cons_succ]
            refine held_take (i := 10) (v := ?_) rfl (by kernel_rfl) (by kernel_rfl) (by kernel_rfl) (fun _ _ _ h => h) (by rfl) (fun w hSw => ?_) (by assumption) ?_; rotate_left 1; focus (((try dsimp only at hSw); first | (go_simp; done) | (go_simp; with_reducible rfl)))
            try simp only [Act.put, List.setIfInBounds_toArray, List.set_cons_zero, List.set_cons_succ]
            refine held_take (i := 11) (v := ?_) rfl (by kernel_rfl) (by kernel_rfl) (by kernel_rfl) (fun _ _ _ h => h) (by rfl) (fun w hSw => ?_) (by assumption) ?_; rotate_left 1; focus (((try dsimp only at hSw); first | (go_simp; done) | (go_simp; with_reducible rfl)))
            try simp only [Act.put, List.setIfInBounds_toArray, List.set_cons_zero, List.set_cons_succ]
            refine held_take (i := 12) (v := ?_) rfl (by kernel_rfl) (by kernel_rfl) (by kernel_rfl) (fun _ _ _ h => h) (by rfl) (fun w hSw => ?_) (by assumption) ?_; rotate_left 1; focus (((try dsimp only at hSw); first | (go_simp; done) | (go_simp; with_reducible rfl)))
            try simp only [Act.put, List.setIfInBounds_toArray, List.set_cons_zero, List.set_cons_succ]
            refine held_take (i := 13) (v := ?_) rfl (by kernel_rfl) (by kernel_rfl) (by kernel_rfl) (fun _ _ _ h => h) (by rfl) (fun w hSw => ?_) (by assumption) ?_; rotate_left 1; focus (((try dsimp only at hSw); first | (go_simp; done) | (go_simp; with_reducible rfl)))
            try simp only [Act.put, List.setIfInBounds_toArray, List.set_cons_zero, List.set_cons_succ]
            refine held_take (i := 14) (v := ?_) rfl (by kernel_rfl) (by kernel_rfl) (by kernel_rfl) (fun _ _ _ h => h) (by rfl) (fun w hSw => ?_) (by assumption) ?_; rotate_left 1; focus (((try dsimp only at hSw); first | (go_simp; done) | (go_simp; with_reducible rfl)))
            try simp only [Act.put, List.setIfInBounds_toArray, List.set_cons_zero, List.set_cons_succ]
            refine held_take (i := 15) (v := ?_) rfl (by kernel_rfl) (by kernel_rfl) (by kernel_rfl) (fun _ _ _ h => h) (by rfl) (fun w hSw => ?_) (by assumption) ?_; rotate_left 1; focus (((try dsimp only at hSw); first | (go_simp; done) | (go_simp; with_reducible rfl)))
            try simp only [Act.put, List.setIfInBounds_toArray, List.set_cons_zero, List.set_cons_succ]
            refine held_take (i := 16) (v := ?_) rfl (by kernel_rfl) (by kernel_rfl) (by kernel_rfl) (fun _ _ _ h => h) (by rfl) (fun w hSw => ?_) (by assumption) ?_; rotate_left 1; focus (((try dsimp only at hSw); first | (go_simp; done) | (go_simp; with_reducible rfl)))
            try simp only [Act.put, List.setIfInBounds_toArray, List.set_cons_zero, List.set_cons_succ]
            refine wpAnyH_done (by kernel_rfl) ?_ _
            go_wp2_with fail
            have HY := Lib.hid (hY pre (k, u - k) wr.drew (hJ _ _ _ hJs.out hB2.out) hrun.out)
            unfold encRun at HY
            simp only at HY
            have SL := fun u2 => slr_three b o n c k u huk (by omega) u2
            have c9 := m2.out.1
            obtain ⟨fn, tmps, assign, body, hy2, hR1⟩ := HY.out
            gi_wp2
            refine hR1.mono ?_
            rintro e C' (⟨rfl, hJ3, hk3⟩ | ⟨rfl, hJx3⟩)
            · gi_wp2
              go_roundw
              case rel => exact ⟨pre ++ [(k, u - k)], by rw [totK_snoc, ← hkk.out]; simp only; omega, by rw [totK_snoc, ← hkk.out]; simp only; rw [show k + (u - k) = u by omega], by rw [totK_snoc, ← hkk.out]; simp only; rw [show k + (u - k) = u by omega], hJ3⟩
              case measure => simp [intOf]; omega
            · gi_wp2
              refine bodyPost_ret (results_none rfl _ _ _) rfl ?_
              exact ⟨⟨_, rfl⟩, .inr ⟨pre ++ [(k, u - k)], hJx3⟩⟩
        · have hun2 : u = n := by omega
          subst hun2
          have u1 : ¬ (u : Int) < (u : Int) := by omega
          have hrun : Hid (NextRun l u pre (k, u - k)) := Lib.hid (by
            refine ⟨hkk.out, hlt, by show 1 ≤ u - k; omega, by show k + (u - k) ≤ l.length; omega, fun i x y hi hx hy2 => ?_, fun x y2 hx hy2 => ?_⟩
            · rw [hz.out] at hx; cases hx
              exact hsm.out _ y (by omega) (by show k + i < u; simp only at hi; omega) hy2
            · simp only at hy2
              have := (List.getElem?_eq_some_iff.1 hy2).1
              omega)
          have huk : k < u := by omega
          have hB2 := Lib.hid hbq.out.drew
          have m2 := Lib.hid (show wr.drew.cell? ⟨bl, 0, none⟩ = some (.slice (some ⟨b, o, none⟩) u c) from y9)
          clear y8 y9 z0 z1 z2 z3 c0
          go_upto_region 3 with fail
          refine wp_region_held_drew (S := (fun v => v.cell? ⟨bl, 0, none⟩ = some (.slice (some ⟨b, o, none⟩) u c))) (by kernel_rfl) (m2.out) (fun hHeld => ?_)
          refine held_take (i := 0) (v := ?_) rfl (by kernel_rfl) (by kernel_rfl) (by kernel_rfl) (fun _ _ _ h => h) (by rfl) (fun w hSw => ?_) (by assumption) ?_; rotate_left 1; focus (((try dsimp only at hSw); first | (go_simp; done) | (go_simp; with_reducible rfl)))
          try simp only [Act.put, List.setIfInBounds_toArray, List.set_cons_zero, List.set_cons_succ]
          refine held_take (i := 1) (v := ?_) rfl (by kernel_rfl) (by kernel_rfl) (by kernel_rfl) (fun _ _ _ h => h) (by rfl) (fun w hSw => ?_) (by assumption) ?_; rotate_left 1; focus (((try dsimp only at hSw); first | (go_simp; done) | (go_simp; with_reducible rfl)))
          try simp only [Act.put, List.setIfInBounds_toArray, List.set_cons_zero, List.set_cons_succ]
          refine held_take (i := 2) (v := ?_) rfl (by kernel_rfl) (by kernel_rfl) (by kernel_rfl) (fun _ _ _ h => h) (by rfl) (fun w hSw => ?_) (by assumption) ?_; rotate_left 1; focus (((try dsimp only at hSw); first | (go_simp; done) | (go_simp; with_reducible rfl)))
          try simp only [Act.put, List.setIfInBounds_toArray, List.set_cons_zero, List.set_cons_succ]
          refine held_take (i := 3) (v := ?_) rfl (by kernel_rfl) (by kernel_rfl) (by kernel_rfl) (fun _ _ _ h => h) (by rfl) (fun w hSw => ?_) (by assumption) ?_; rotate_left 1; focus (((try dsimp only at hSw); first | (go_simp; done) | (go_simp; with_reducible rfl)))
          try simp only [Act.put, List.setIfInBounds_toArray, List.set_cons_zero, List.set_cons_succ]
          refine held_take (i := 4) (v := ?_) rfl (by kernel_rfl) (by kernel_rfl) (by kernel_rfl) (fun _ _ _ h => h) (by rfl) (fun w hSw => ?_) (by assumption) ?_; rotate_left 1; focus (((try dsimp only at hSw); first | (go_simp; done) | (go_simp; with_reducible rfl)))
          try simp only [Act.put, List.setIfInBounds_toArray, List.set_cons_zero, List.set_cons_succ]
          refine held_skip (i := 5) rfl (by kernel_rfl) (by kernel_rfl) (by kernel_rfl) (fun _ _ _ h => h) (by rfl) (by assumption) ?_
          try simp only [Act.put, List.setIfInBounds_toArray, List.set_cons_zero, List.set_cons_succ]
          refine held_skip (i := 6) rfl (by kernel_rfl) (by kernel_rfl) (by kernel_rfl) (fun _ _ _ h => h) (by rfl) (by assumption) ?_
          try simp only [Act.put, List.setIfInBounds_toArray, List.set_cons_zero, List.set_cons_succ]
          refine held_skip (i := 7) rfl (by kernel_rfl) (by kernel_rfl) (by kernel_rfl) (fun _ _ _ h => h) (by rfl) (by assumption) ?_
          try simp only [Act.put, List.setIfInBounds_toArray, List.set_cons_zero, List.set_cons_succ]
          refine held_skip (i := 8) rfl (by kernel_rfl) (by kernel_rfl) (by kernel_rfl) (fun _ _ _ h => h) (by rfl) (by assumption) ?_
          try simp only [Act.put, List.setIfInBounds_toArray, List.set_cons_zero, List.set_cons_succ]
          refine held_skip (i := 9) rfl (by kernel_rfl) (by kernel_rfl) (by kernel_rfl) (fun _ _ _ h => h) (by rfl) (by assumption) ?_
          try simp only [Act.put, List.setIfInBounds_toArray, List.set_cons_zero, List.set_cons_succ]
          refine held_skip (i := 10) rfl (by kernel_rfl) (by kernel_rfl) (by kernel_rfl) (fun _ _ _ h => h) (by rfl) (by assumption) ?_
          try simp only [Act.put, List.setIfInBounds_toArray, List.set_cons_zero, List.set_cons_succ]
          refine held_skip (i := 11) rfl (by kernel_rfl) (by kernel_rfl) (by kernel_rfl) (fun _ _ _ h => h) (by rfl) (by assumption) ?_
          try simp only [Act.put, List.setIfInBounds_toArray, List.set_cons_zero, List.set_cons_succ]
          refine held_skip (i := 12) rfl (by kernel_rfl) (by kernel_rfl) (by kernel_rfl) (fun _ _ _ h => h) (by rfl) (by assumption) ?_
          try simp only [Act.put, List.setIfInBounds_toArray, List.set_cons_zero, List.set_cons_succ]
          refine held_skip (i := 13) rfl (by kernel_rfl) (by kernel_rfl) (by kernel_rfl) (fun _ _ _ h => h) (by rfl) (by assumption) ?_
          try simp only [Act.put, List.setIfInBounds_toArray, List.set_cons_zero, List.set_cons_succ]
          refine held_skip (i := 14) rfl (by kernel_rfl) (by kernel_rfl) (by kernel_rfl) (fun _ _ _ h => h) (by rfl) (by assumption) ?_
          try simp only [Act.put, List.setIfInBounds_toArray, List.set_cons_zero, List.set_cons_succ]
          refine held_skip (i := 15) rfl (by kernel_rfl) (by kernel_rfl) (by kernel_rfl) (fun _ _ _ h => h) (by rfl) (by assumption) ?_
          try simp only [Act.put, List.setIfInBounds_toArray, List.set_cons_zero, List.set_cons_succ]
          refine held_take (i := 16) (v := ?_) rfl (by kernel_rfl) (by kernel_rfl) (by kernel_rfl) (fun _ _ _ h => h) (by rfl) (fun w hSw => ?_) (by assumption) ?_; rotate_left 1; focus (((try dsimp only at hSw); first | (go_simp; done) | (go_simp; with_reducible rfl)))
          try simp only [Act.put, List.setIfInBounds_toArray, List.set_cons_zero, List.set_cons_succ]
          refine wpAnyH_done (by kernel_rfl) ?_ _
          go_wp2_with fail
          have HY := Lib.hid (hY pre (k, u - k) wr.drew (hJ _ _ _ hJs.out hB2.out) hrun.out)
          unfold encRun at HY
          simp only at HY
          have SL := fun u2 => slr_three b o u c k u huk (by omega) u2
          have c9 := m2.out
          obtain ⟨fn, tmps, assign, body, hy2, hR1⟩ := HY.out
          gi_wp2
          refine hR1.mono ?_
          rintro e C' (⟨rfl, hJ3, hk3⟩ | ⟨rfl, hJx3⟩)
          · gi_wp2
            go_roundw
            case rel => exact ⟨pre ++ [(k, u - k)], by rw [totK_snoc, ← hkk.out]; simp only; omega, by rw [totK_snoc, ← hkk.out]; simp only; rw [show k + (u - k) = u by omega], by rw [totK_snoc, ← hkk.out]; simp only; rw [show k + (u - k) = u by omega], hJ3⟩
            case measure => simp [intOf]; omega
          · gi_wp2
            refine bodyPost_ret (results_none rfl _ _ _) rfl ?_
            exact ⟨⟨_, rfl⟩, .inr ⟨pre ++ [(k, u - k)], hJx3⟩⟩
    · have k1 : ¬ (k : Int) < (n : Int) := by omega
      have hkn : k = n := by omega
      gi_wp2
      go_end0
      exact ⟨⟨_, rfl⟩, .inl ⟨pre, by rw [← hkk.out]; exact hkn, hJs⟩⟩
end Go.Proofs.Ytlnklpnldmcopaa
/-
  The contract of the program's At. Condition: at most 1000000 rows, texts of less than 2^48 bytes.
-/
namespace Go.Proofs.Ytlnklpnldmcopaa
set_option maxRecDepth 100000
open Go.RowKit
attribute [local go_sem] Oper.semAt_some
/-- What stands while At goes over the keys. -/
structure AtI (N M q n c b o : Nat) (a : Option Addr) (l : List Rw) (w0 : World) (PA : List (ByteArray × ByteArray)) (W : World) : Prop where
  bq : Boxed W N 35 (.int .u64 (q : Int))
  bf : Boxed W M 56 (.func (.func 27) #[] #[.pointer (some ⟨N, 0, none⟩)])
  row : ∃ v, Boxed W (M + 1) 32 v ∧ W.ownsRow N 46 2 v PA.length (rowP PA)
  bl : Boxed W (M + 1 + 1) 22 (.slice a n c)
  bel : Below N w0 W
theorem AtI.stays {N M q n c b o : Nat} {a : Option Addr} {l : List Rw} {w0 : World} {PA : List (ByteArray × ByteArray)} {W W' : World} (h : AtI N M q n c b o a l w0 PA W) (hs : Stays W W') (hB : Below N W W') : AtI N M q n c b o a l w0 PA W' := by
  obtain ⟨v, h1, h2⟩ := h.row
  exact ⟨hs.2 _ _ _ _ h.bq, hs.2 _ _ _ _ h.bf, ⟨v, hs.2 _ _ _ _ h1, ownsRow_stays h2 hs⟩, hs.2 _ _ _ _ h.bl, h.bel.trans hB⟩
theorem AtI.grow {N M q n c b o : Nat} {a : Option Addr} {l : List Rw} {w0 : World} {PA : List (ByteArray × ByteArray)} {W W' : World} (h : AtI N M q n c b o a l w0 PA W) (hN : N ≤ W.heap.size) (hb : Below W.heap.size W W') : AtI N M q n c b o a l w0 PA W' := h.stays (Stays.of_below hb) (hb.mono hN)
/-- Another pair. -/
theorem AtI.more {N M q n c b o : Nat} {a : Option Addr} {l : List Rw} {w0 : World} {PA : List (ByteArray × ByteArray)} {W w1 : World} (h : AtI N M q n c b o a l w0 PA W) (hM : N < M) (hN : N ≤ W.heap.size) (x : ByteArray × ByteArray) {v v' : Value} {tmp : Obj} (hv : Boxed W (M + 1) 32 v) (hr : W.ownsRow N 46 2 v PA.length (rowP PA))
    (hown : w1.ownsRow N 46 2 v' (PA.length + 1) (rowP (PA ++ [x]))) (hgrow : (W.alloc tmp).grownBy w1 v.ownBlock) :
    AtI N M q n c b o a l w0 (PA ++ [x]) (w1.setCell ⟨M + 1, 0, none⟩ v') ∧ KeepsOthers W (w1.setCell ⟨M + 1, 0, none⟩ v') ∧ Below N W (w1.setCell ⟨M + 1, 0, none⟩ v') ∧ Boxed w1 (M + 1) 32 v := by
  obtain ⟨a1, a2, a3, a4, a5⟩ := hv.appended (by decide) hr hN (by omega) hown hgrow
  exact ⟨⟨stays_appended hr hgrow h.bq (by omega) (by decide), stays_appended hr hgrow h.bf (by omega) (by decide), ⟨v', a2, by rw [List.length_append]; exact a3⟩, stays_appended hr hgrow h.bl (by omega) (by decide), h.bel.trans a5⟩, a4, a5, a1⟩
theorem rs_run {n c b o : Nat} {l : List Rw} {W : World} (h : Rs (some ⟨b, o, none⟩) n c b o l W) {k r : Nat} (hr : k + r ≤ n) (h1 : 1 ≤ r) : Rs (some ⟨b, o + k * 4, none⟩) r r b (o + k * 4) ((l.drop k).take r) W := by
  have h2 := (h.from (k := k) (by omega)).upto (k := r) (by omega)
  have hc := h.cap
  have hm := h.most
  have e : fromA (some ⟨b, o, none⟩) c k = some ⟨b, o + k * 4, none⟩ := by
    unfold fromA
    rw [if_neg (by omega)]
    simp [addr_add]
  rw [e] at h2
  exact ⟨h2.len, Nat.le_refl _, by omega, h2.addr, h2.at'⟩
theorem Fst.no {P : Rw → Bool} {l : List Rw} {r : Int} (h : Fst P l r) (hn : ∀ (i : Nat) y, l[i]? = some y → P y = false) : r = -1 := by
  rcases h with ⟨h, _⟩ | ⟨j, x, h, hx, hp, _⟩
  · exact h
  · rw [hn j x hx] at hp; cases hp
theorem Fst.at {P : Rw → Bool} {l : List Rw} {r : Int} (h : Fst P l r) {j : Nat} {x : Rw} (hx : l[j]? = some x) (hp : P x = true) (hno : ∀ (i : Nat) y, i < j → l[i]? = some y → P y = false) : r = (j : Int) := by
  rcases h with ⟨_, h⟩ | ⟨i, y, h, hy, hq, hno2⟩
  · rw [h j x hx] at hp; cases hp
  · rcases Nat.lt_trichotomy i j with h1 | h1 | h1
    · rw [hno i y h1 hy] at hq; cases hq
    · rw [h, h1]
    · rw [hno2 j x h1 hx] at hp; cases hp
theorem fst_ex (P : Rw → Bool) : ∀ l : List Rw, (∀ (i : Nat) y, l[i]? = some y → P y = false) ∨ ∃ (j : Nat) (x : Rw), l[j]? = some x ∧ P x = true ∧ ∀ (i : Nat) y, i < j → l[i]? = some y → P y = false
  | [] => .inl fun i y h => by simp at h
  | x :: r => by
    cases hx : P x with
    | true => exact .inr ⟨0, x, rfl, hx, fun i y hi => absurd hi (by omega)⟩
    | false =>
      rcases fst_ex P r with h | ⟨j, z, hz, hp, hno⟩
      · refine .inl fun i y hy => ?_
        cases i with
        | zero => obtain rfl : x = y := by simpa using hy
                  exact hx
        | succ i => exact h i y (by simpa using hy)
      · refine .inr ⟨j + 1, z, by simpa using hz, hp, fun i y hi hy => ?_⟩
        cases i with
        | zero => obtain rfl : x = y := by simpa using hy
                  exact hx
        | succ i => exact hno i y (by omega) (by simpa using hy)
theorem isAt_enters : ∀ (args : Array Value) (w : World), (callFunc 27 args).run Try.prog w = .ok (.enter 27 args) w := enters_of Try.func27 (by kernel_rfl) rfl
set_option maxRecDepth 100000 in
set_option maxHeartbeats 8000000 in
theorem mat_any {a : Option Addr} {n c b o : Nat} {l : List Rw} {w : World} (h : Rs a n c b o l w) (hn : n ≤ 1000000) (hs : ∀ x ∈ l, x.key.size ≤ 281474976710656 ∧ x.val.size ≤ 281474976710656) (q : Nat) :
    Calls Try.prog 13 #[.slice a n c, .int .u64 (q : Int)] w (AtD l q w) := by
  have m0 := h.most
  have q0 := h.cap
  have hlen := Lib.hid h.len
  have hmf := makes_funcM
  obtain ⟨N, hN⟩ := named w.heap.size
  have W0 := Lib.hid (below_alloc w (.cells #[.int .u64 (q : Int)] 35))
  have bq0 := Lib.hid (Boxed.new w 35 (.int .u64 (q : Int)))
  have OC := Lib.hid (order_any (h.below W0.out (Nat.le_refl _)))
  have h := Lib.hid h
  cases ho : ordR l with
  | false =>
    rw [ho] at OC
    have ho := Lib.hid ho
    go_enter Try.func13, Try.ntmps13
    go_wp2_with (go_at_call 18; ((with_reducible refine OC.out.mono ?_); rintro e w1 ⟨rfl, hb1⟩))
    go_returns
    exact .inl ⟨ho.out, rfl, below_of W0.out hb1⟩
  | true =>
    rw [ho] at OC
    have ho := Lib.hid ho
    obtain ⟨i0, hi, hy0, hy1, hy2⟩ := info_parts infoPr
    refine (callsIn_wide (n := 6)).1 ?_
    refine callsIn_of_wp_marks Try.func13 rfl trivial ?_ rfl
    simp only [Try.ntmps13, List.size_toArray, List.length_cons, List.length_nil, Nat.reduceAdd, Nat.reduceSub, Array.replicate_succ, Array.replicate_zero, List.push_toArray, List.append_toArray, List.nil_append, List.cons_append]
    refine wpIn_wide.2 ?_
    have BC := Lib.hid (fun u => bykeys_any a n c u)
    go_wp2_with (first
      | (go_at_call 18; ((with_reducible refine OC.out.mono ?_); rintro e w1 ⟨rfl, hb1⟩))
      | (go_at_call 21; ((with_reducible refine (BC.out _).mono ?_); rintro e w2 ⟨rfl, rfl⟩)))
    have hz1 : N + 1 ≤ w1.heap.size := by have := hb1.size; rw [World.size_alloc] at this; rw [hN.out]; exact this
    have hB1 : Hid (Below N w w1) := Lib.hid (by rw [hN.out]; exact below_of W0.out hb1)
    have bq1 : Hid (Boxed w1 N 35 (.int .u64 (q : Int))) := Lib.hid (by rw [hN.out]; exact (hb1.block _ bq0.out.lt).trans bq0.out)
    clear bq0 W0 hb1
    obtain ⟨M, hM⟩ := named w1.heap.size
    rw [← hN.out, ← hM.out]
    rw [← hM.out] at hz1
    have hz2' : ((((w1.alloc (.cells #[.func (.func 27) #[] #[.pointer (some ⟨N, 0, none⟩)]] 56)).alloc (.cells #[.slice none 0 0] 32)).alloc (.cells #[.slice a n c] 22))).heap.size = M + 3 := by simp [hM.out]
    have bf2 : Boxed (((w1.alloc (.cells #[.func (.func 27) #[] #[.pointer (some ⟨N, 0, none⟩)]] 56)).alloc (.cells #[.slice none 0 0] 32)).alloc (.cells #[.slice a n c] 22)) M 56 (.func (.func 27) #[] #[.pointer (some ⟨N, 0, none⟩)]) := by rw [hM.out]; exact ((Boxed.new w1 _ _).alloc _).alloc _
    have bv2 : Boxed (((w1.alloc (.cells #[.func (.func 27) #[] #[.pointer (some ⟨N, 0, none⟩)]] 56)).alloc (.cells #[.slice none 0 0] 32)).alloc (.cells #[.slice a n c] 22)) (M + 1) 32 (.slice none 0 0) := by
      have := (Boxed.new (w1.alloc (.cells #[.func (.func 27) #[] #[.pointer (some ⟨N, 0, none⟩)]] 56)) 32 (.slice none 0 0)).alloc (.cells #[.slice a n c] 22)
      rw [World.size_alloc, ← hM.out] at this; exact this
    have bl2 : Boxed (((w1.alloc (.cells #[.func (.func 27) #[] #[.pointer (some ⟨N, 0, none⟩)]] 56)).alloc (.cells #[.slice none 0 0] 32)).alloc (.cells #[.slice a n c] 22)) (M + 1 + 1) 22 (.slice a n c) := by
      have := Boxed.new ((w1.alloc (.cells #[.func (.func 27) #[] #[.pointer (some ⟨N, 0, none⟩)]] 56)).alloc (.cells #[.slice none 0 0] 32)) 22 (.slice a n c)
      rw [World.size_alloc, World.size_alloc, ← hM.out] at this; exact this
    have bq2 : Boxed (((w1.alloc (.cells #[.func (.func 27) #[] #[.pointer (some ⟨N, 0, none⟩)]] 56)).alloc (.cells #[.slice none 0 0] 32)).alloc (.cells #[.slice a n c] 22)) N 35 (.int .u64 (q : Int)) := ((bq1.out.alloc _).alloc _).alloc _
    have bb2 : Below N w (((w1.alloc (.cells #[.func (.func 27) #[] #[.pointer (some ⟨N, 0, none⟩)]] 56)).alloc (.cells #[.slice none 0 0] 32)).alloc (.cells #[.slice a n c] 22)) := ((hB1.out.alloc (by have := hM.out; omega) _).alloc (by have := hM.out; simp; omega) _).alloc (by have := hM.out; simp; omega) _
    generalize (((w1.alloc (.cells #[.func (.func 27) #[] #[.pointer (some ⟨N, 0, none⟩)]] 56)).alloc (.cells #[.slice none 0 0] 32)).alloc (.cells #[.slice a n c] 22)) = V at *
    have D1 : AtI N M q n c b o a l w [] V := ⟨bq2, bf2, ⟨_, bv2, World.ownsRow_nil _ _ _ _⟩, bl2, bb2⟩
    clear bf2 bv2 bl2 bq2 bb2 bq1 hB1 hM
    have hRs : Hid (∀ A, Below N w A → Rs a n c b o l A) := Lib.hid (fun A hA => h.out.below hA (by rw [hN.out]; exact Nat.le_refl _))
    have SU := keys_until (n := n) (c := c) (b := b) (o := o) (l := l) (a := a) hn (fun A => ∃ PA, AtI N M q n c b o a l w PA A ∧ M + 3 ≤ A.heap.size) (M + 1 + 1)
      (fun A C ⟨PA, hA, hs⟩ hAC => ⟨PA, hA.grow (by omega) hAC, Nat.le_trans hs hAC.size⟩) (fun A ⟨PA, hA, _⟩ => hA.bl.cell) (fun A ⟨PA, hA, _⟩ => hRs.out A hA.bel) N V
    have hord : Hid (SortedR l) := Lib.hid ((ordR_sorted l).1 ho.out)
    refine (wpIn_wide (n := 6)).1 ?_
    refine wpIn_range_untilW (gf := 37) (lb := #[.pointer (some ⟨M + 1 + 1, 0, none⟩)]) rfl (enters_of Try.func37 (by kernel_rfl) rfl) (B := N) (by omega) SU (fun _ => rfl)
      (fun pre W => (AtI N M q n c b o a l w (pairsOf (selL (sees q) none (l.take (totK pre)))) W ∧ M + 3 ≤ W.heap.size) ∧ Brk l (totK pre) ∧ totK pre ≤ n)
      (fun _ _ _ => False)
      (fun s X Y row h hg hr => ⟨⟨h.1.1.stays (stays_own hg (fun r e => (hr r e).2)) ((Below.refl N X).grown hg (by have := h.1.2; omega) (fun k e => by have := (hr k e).1; omega)), Nat.le_trans h.1.2 hg.size⟩, h.2⟩)
      (fun c s X Y row h hg hr => h)
      (fun pre W h => ⟨_, h.1⟩)
      ⟨⟨D1, by omega⟩, brk_zero l, Nat.zero_le _⟩
      (fun x a' W => a' = { tmps := #[.slice a n c, .int .u64 (q : Int), undef, .pointer (some ⟨N, 0, none⟩), .slice none 0 0, .int .i64 0, .pointer (some ⟨M, 0, none⟩), .pointer (some ⟨M + 1, 0, none⟩), .slice (some ⟨b, o + x.1 * 4, none⟩) x.2 x.2, undef, undef, .slice a n c, .bool true, .bool false, .func (.func 27) #[] #[.pointer (some ⟨N, 0, none⟩)], .slice a n c, .func (.func 37) #[] #[.pointer (some ⟨M + 1 + 1, 0, none⟩)], .slice (some ⟨b, o + x.1 * 4, none⟩) x.2 x.2, undef, undef, undef, undef, undef, undef, undef, undef, undef, undef, undef, undef, undef, undef, undef, undef, undef, undef, undef, undef, undef, undef, undef, undef, undef, undef, undef], defers := [] })
      (fun x a' _ X Y row h hg hr => h)
      ?assign ?body ?done ?stop
    case assign =>
      rintro l' pre x W K' hI hK
      unfold encRun at *
      gi_wp2
      exact hK _ _ (KeepsFrom.refl _ _) (Below.refl _ _) hI rfl
    case body =>
      rintro l' pre x a' W hok ⟨⟨hD, hz⟩, hbrk, htot⟩ rfl
      obtain ⟨k, r⟩ := x
      obtain ⟨hk1, hk2, hrun⟩ := hok
      simp only at hk1 hk2 hrun ⊢
      rw [← hk1] at hD hbrk htot
      have hRW := hRs.out W hD.bel
      obtain ⟨rfl, hbN⟩ := hRW.addr (by omega)
      have hrl : k + r ≤ n := by have := hrun.le; rw [hlen.out] at this; exact this
      have hr1 := hrun.pos
      have hSeg := rs_run hRW hrl hr1
      have hpl := atL_run (n := q) hord.out hrun hbrk
      have hbrk2 := Lib.hid hrun.brk
      have htk : Hid (totK (pre ++ [(k, r)]) = k + r) := Lib.hid (by rw [totK_snoc, ← hk1])
      have hNW : N ≤ W.heap.size := by omega
      have IC0 := index_any 27 #[.pointer (some ⟨N, 0, none⟩)] isAt_enters (fun x => decide (x.seq ≤ q)) hSeg (fun x u hu => isAt_any x q N u ((hD.grow hNW hu).bq.cell))
      have hPl : (pairsOf (selL (sees q) none (l.take k))).length ≤ 1000000 := by
        have := atL_len q (l.take k)
        unfold atL at this
        rw [List.length_take] at this
        omega
      obtain ⟨PA, hPA⟩ := named (pairsOf (selL (sees q) none (l.take k)))
      rw [← hPA.out] at hD hpl hPl
      have cf := hD.bf.cell
      have hSegL := Lib.hid hSeg.len
      replace hrun := Lib.hid hrun
      replace hk1 := Lib.hid hk1
      rcases fst_ex (fun x => decide (x.seq ≤ q)) ((l.drop k).take r) with hno | ⟨j, x, hx, hp, hno⟩
      · have IC : Hid (Calls Try.prog 28 #[.slice (some ⟨b, o + k * 4, none⟩) r r, .func (.func 27) #[] #[.pointer (some ⟨N, 0, none⟩)]] W fun e w' => e = .returned (.int .i64 (-1)) ∧ Below W.heap.size W w') := Lib.hid (IC0.mono (fun e w' ⟨ri, hf, he, hb⟩ => by rw [hf.no hno] at he; exact ⟨he, hb⟩))
        have hpl2 : Hid (pairsOf (selL (sees q) none (l.take (totK (pre ++ [(k, r)])))) = PA) := Lib.hid (by rw [htk.out, hpl, find_no hno, List.append_nil])
        have hD := Lib.hid hD
        clear IC0 hpl hno hSeg hRW
        gi_wp2_with (refine ⟨trivial, ?_⟩; gi_at_call 28; with_reducible refine (CallsIn.inRound l' (callsIn_wide.2 IC.out)).mono ?_; rintro e w2 ⟨rfl, hb2⟩)
        exact ⟨(keeps_below hb2).from _, hb2.mono hNW, ⟨by rw [hpl2.out]; exact hD.out.grow hNW hb2, Nat.le_trans hz hb2.size⟩, by rw [htk.out]; exact hbrk2.out, by rw [htk.out]; exact hrl⟩
      · have IC : Hid (Calls Try.prog 28 #[.slice (some ⟨b, o + k * 4, none⟩) r r, .func (.func 27) #[] #[.pointer (some ⟨N, 0, none⟩)]] W fun e w' => e = .returned (.int .i64 (j : Int)) ∧ Below W.heap.size W w') := Lib.hid (IC0.mono (fun e w' ⟨ri, hf, he, hb⟩ => by rw [hf.at hx hp hno] at he; exact ⟨he, hb⟩))
        have hjr : j < r := by have := (List.getElem?_eq_some_iff.1 hx).1; rw [hSeg.len] at this; exact this
        have hpl2 : Hid (pairsOf (selL (sees q) none (l.take (totK (pre ++ [(k, r)])))) = PA ++ pairsOf [x]) := Lib.hid (by rw [htk.out, hpl, find_at hx hp hno])
        obtain ⟨x', hx', _, x0, x1, x2, x3⟩ := hSeg.at4 hjr
        obtain rfl : x' = x := by rw [hx] at hx'; exact (Option.some.inj hx').symm
        have hxl : x' ∈ l := List.mem_of_mem_drop (List.mem_of_mem_take (List.mem_of_getElem? hx))
        have CP := Lib.hid (fun u => copied_any x' (hs x' hxl).1 (hs x' hxl).2 u)
        obtain ⟨xk, xs, xi, xv⟩ := x'
        simp only at x0 x1 x2 x3 CP
        have j0 : (j : Int) < (r : Int) := by omega
        have j1 : (0 : Int) ≤ (j : Int) := by omega
        clear IC0 hpl hno hSeg hRW hx hx' hp hxl
        by_cases hk : xi = 1
        · have hpl3 : Hid (pairsOf (selL (sees q) none (l.take (totK (pre ++ [(k, r)])))) = PA ++ [(xk, xv)]) := Lib.hid (by rw [hpl2.out]; simp [pairsOf, hk])
          subst hk
          have k1 : ((1 : Int) == 1) = true := rfl
          obtain ⟨v, hv, hr⟩ := hD.row
          have hv := Lib.hid hv
          have hr := Lib.hid hr
          have hD := Lib.hid hD
          clear hpl2
          gi_wp2_with (first
            | (refine ⟨trivial, ?_⟩; gi_at_call 28; with_reducible refine (CallsIn.inRound l' (callsIn_wide.2 IC.out)).mono ?_; rintro e w2 ⟨rfl, hb2⟩; have y0 := cell_keep hb2 x0; have y1 := cell_keep hb2 x1; have y2 := cell_keep hb2 x2; have y3 := cell_keep hb2 x3; have B2 := Lib.hid hb2; clear hb2)
            | (refine ⟨trivial, ?_⟩; gi_at_call 24; with_reducible refine (CallsIn.inRound l' (callsIn_wide.2 (CP.out _))).mono ?_; rintro e w3 ⟨rfl, hb3⟩; have B4 := Lib.hid (below_of (below_of B2.out hb3) (below_alloc w3 (.cells #[.string xk, .int .u64 (xs : Int), .int .i64 1, .string xv] 38))); have D4 := Lib.hid (hD.out.grow hNW B4.out); have hv4 := Lib.hid ((Stays.of_below B4.out).box hv.out); have hr4 := Lib.hid (ownsRow_stays hr.out (Stays.of_below B4.out)); have cv4 := Boxed.cell hv4.out; have hX4 := RowAt.new ⟨xk, xs, 1, xv⟩ w3; obtain ⟨⟨e0, e1, e2, e3⟩, _⟩ := hX4.cells; clear hb3)
            | (gi_at_builtin; refine wpListIn_append_own _ rfl _ _ 32 rfl N 46 i0 (.agg #[.string .empty, .string .empty]) 2 32 Try.underlying32 hi hy0 hy1 hy2 rfl (by decide) _ PA.length (rowP PA) rfl (hr4.out.alloc _) ⟨w3.heap.size + 1, 0, none⟩ 1 1 [.string xk, .string xv] rfl rfl (World.news_of_block (by have := heap_alloc_new (w3.alloc (.cells #[.string xk, .int .u64 (xs : Int), .int .i64 1, .string xv] 38)) (.cells #[.string xk, .string xv] 46); rw [World.size_alloc] at this; exact this)) (by simp [Value.oneCell']) (by unfold maxLen; omega) (by omega) (by have := B4.out.size; rw [World.size_alloc]; omega) ?_; intro v' w5 hown' hgrow _; obtain ⟨f1, f2, f3, f4⟩ := D4.out.more (by omega) (Nat.le_trans hNW B4.out.size) (xk, xv) hv4.out hr4.out (by rw [rowP_snoc]; exact hown') hgrow; have c5 := f4.cell; have g5 := f4.frozen; obtain ⟨s1, s2, s3, rfl⟩ := own_shape hown'))
          refine ⟨((keeps_below B4.out).trans f2).from _, (B4.out.mono hNW).trans f3, ⟨by rw [hpl3.out]; exact f1, ?_⟩, by rw [htk.out]; exact hbrk2.out, by rw [htk.out]; exact hrl⟩
          exact Nat.le_trans hz (Nat.le_trans B4.out.size f3.size)
        · have hpl3 : Hid (pairsOf (selL (sees q) none (l.take (totK (pre ++ [(k, r)])))) = PA) := Lib.hid (by rw [hpl2.out]; simp [pairsOf, hk])
          have k1 : (xi == 1) = false := by rw [beq_eq_false_iff_ne]; exact hk
          have hD := Lib.hid hD
          clear hpl2 hk
          gi_wp2_with (refine ⟨trivial, ?_⟩; gi_at_call 28; with_reducible refine (CallsIn.inRound l' (callsIn_wide.2 IC.out)).mono ?_; rintro e w2 ⟨rfl, hb2⟩; have y2 := cell_keep hb2 x2)
          exact ⟨(keeps_below hb2).from _, hb2.mono hNW, ⟨by rw [hpl3.out]; exact hD.out.grow hNW hb2, Nat.le_trans hz hb2.size⟩, by rw [htk.out]; exact hbrk2.out, by rw [htk.out]; exact hrl⟩
    case done =>
      rintro D xs W hD hS ⟨⟨hI, hz⟩, hbrk, htot⟩ hK
      obtain ⟨v, hv, hr⟩ := hI.row
      obtain ⟨q1, q2, q3, rfl⟩ := own_shape hr
      have cv := hv.cell
      have hr := Lib.hid hr
      have hI := Lib.hid hI
      have hfin : Hid (pairsOf (selL (sees q) none (l.take (totK xs))) = atL q l) := Lib.hid (by
        have e : totK xs = l.length := by rw [hlen.out]; exact hS
        unfold atL; rw [e, List.take_length])
      have BF : Below N W (W.putObj D (.deferred none)) := (Below.refl N _).grown (grownBy_putObj' _ D (.deferred none)) (by omega) (fun k e => by cases e; omega)
      go_wp2
      refine ⟨by simp, .inl ⟨_, _, rfl, run_takeDeferred hK, ?_⟩⟩
      refine ⟨.tuple #[.slice q1 q2 q3, .int .i64 0], ?_, ?_⟩
      · simp [results, Try.results13, go_sem]
      · refine .inr ⟨ho.out, _, rfl, ?_, by rw [← hN.out]; exact hI.out.bel.trans BF⟩
        rw [← hN.out, ← hfin.out]
        exact ownsRow_putObj hr.out (.deferred none) hK rfl
    case stop =>
      rintro D cd pre W hD hF
      exact hF.elim
end Go.Proofs.Ytlnklpnldmcopaa
/-
  What sorting numbers owes; the contract of slices.Sort at one number; slices.Clone at numbers. Condition: at most 1000000 numbers.
-/
namespace Go.Proofs.Ytlnklpnldmcopaa
set_option maxRecDepth 100000
open Go.RowKit
/-- Sort does its work at so many numbers. -/
def SortOK (n : Nat) : Prop := ∀ (B : Nat) (v : Value) (D : List Nat) (u : World), D.length = n → B ≤ u.heap.size → u.ownsRow B 35 1 v n (rowU D) →
  Calls Try.prog 20 #[v] u fun e u' => e = .returned (.tuple #[]) ∧ ∃ D' : List Nat, D'.Perm D ∧ D'.Pairwise (· ≤ ·) ∧ u'.ownsRow B 35 1 v n (rowU D') ∧ u.grownBy u' v.ownBlock
set_option maxRecDepth 100000 in
set_option maxHeartbeats 2000000 in
theorem ins_one (p : Option Addr) (n c : Nat) (w : World) : Calls Try.prog 45 #[.slice p n c, .int .i64 0, .int .i64 1] w fun e w' => e = .returned (.tuple #[]) ∧ w' = w := by
  go_enter Try.func45, Try.ntmps45
  go_wp2_with fail
  go_loopw [6] (fun i wr => i = .int .i64 1 ∧ wr = w) (fun _ _ => 0)
  case atStart => exact ⟨rfl, rfl⟩
  case round =>
    obtain ⟨rfl, rfl⟩ := hrel
    go_wp2_with fail
    go_returns
    exact ⟨rfl, rfl⟩
set_option maxRecDepth 100000 in
set_option maxHeartbeats 4000000 in
theorem pdq_one (p : Option Addr) (n c : Nat) (lim : Int) (w : World) : Calls Try.prog 35 #[.slice p n c, .int .i64 0, .int .i64 1, .int .i64 lim] w fun e w' => e = .returned (.tuple #[]) ∧ w' = w := by
  have IC := Lib.hid (fun u => ins_one p n c u)
  go_enter Try.func35, Try.ntmps35
  go_wp2_with fail
  go_loopw [1, 2, 3] (fun a b l wr => a = .int .i64 0 ∧ b = .int .i64 1 ∧ l = .int .i64 lim ∧ wr = w) (fun _ _ _ _ => 0)
  case atStart => exact ⟨rfl, rfl, rfl, rfl⟩
  case round =>
    obtain ⟨rfl, rfl, rfl, rfl⟩ := hrel
    go_wp2_with (go_at_call 45; ((with_reducible refine (IC.out _).mono ?_); rintro e w1 ⟨rfl, rfl⟩))
    go_returns
    exact ⟨rfl, rfl⟩
set_option maxRecDepth 100000 in
set_option maxHeartbeats 4000000 in
theorem sort_one : SortOK 1 := by
  intro B v D u hD hB hrow
  obtain ⟨x, rfl⟩ : ∃ x, D = [x] := by
    match D, hD with
    | [x], _ => exact ⟨x, rfl⟩
  obtain ⟨p, c, hv⟩ : ∃ p c, v = .slice p 1 c := by
    rcases hrow.2 with ⟨_, h0⟩ | ⟨g, cap, cur, h1, _⟩
    · cases h0
    · exact ⟨_, _, h1⟩
  have hres : u.grownBy u v.ownBlock := ⟨rfl, rfl, rfl, Nat.le_refl _, fun _ _ _ => rfl⟩
  subst hv
  have LN := Lib.hid (fun w => Try.bits_Len 1 w (by omega) (by omega))
  have PC := Lib.hid (fun l w => pdq_one p 1 c l w)
  have hrow := Lib.hid hrow
  go_enter Try.func20, Try.ntmps20
  go_wp2_with (first
    | (go_at_call 36; ((with_reducible refine (LN.out _).mono ?_); rintro e w1 ⟨rfl, rfl⟩))
    | (go_at_call 35; ((with_reducible refine (PC.out _ _).mono ?_); rintro e w1 ⟨rfl, rfl⟩)))
  go_returns
  exact ⟨rfl, [x], List.Perm.refl _, List.pairwise_singleton _ _, hrow.out, hres⟩
theorem infoU : (Try.prog.info? 35).map (fun i => (i.zero, i.size, i.bytes)) = some (some (.int .u64 0), 1, 8) := by kernel_rfl
theorem u_one (l : List Nat) : ∀ u ∈ rowU l, u.oneCell' = true := by
  intro u hu
  unfold rowU cellsU at hu
  obtain ⟨x, _, hx⟩ := List.mem_flatMap.1 hu
  rw [List.mem_singleton] at hx
  rw [hx]; rfl
theorem slu_src {a : Option Addr} {n c b o : Nat} {D : List Nat} {w : World} (h : SlOf 1 cellsU a n c b o D w) : ∀ p, a = some p → ∀ j u, (rowU D)[j]? = some u → w.cell? (p.add j) = some u := by
  intro p hp j u hu
  have hj := (List.getElem?_eq_some_iff.1 hu).1
  rw [rowU_len, h.len] at hj
  obtain ⟨x, hx, ha, hc⟩ := h.at1 hj
  rw [ha] at hp
  obtain rfl := Option.some.inj hp
  rw [rowU_at D j hx] at hu
  obtain rfl := Option.some.inj hu
  rw [addr_plus]; exact hc
theorem eql_nilU (a : Option Addr) (n c : Nat) (w : World) : (binOp .eql 23 (.slice a n c) (.slice none 0 0)).run Try.prog w = .ok (.bool a.isNone) w := by
  simp only [binOp]
  simp [run_equal_slice_nil w 23 35 a n c Try.underlying23]
attribute [local go_sem] eql_nilU
set_option maxRecDepth 100000 in
set_option maxHeartbeats 4000000 in
theorem clone_any {a : Option Addr} {n c b o : Nat} {D : List Nat} {w : World} (h : SlOf 1 cellsU a n c b o D w) (hnil : a = none → c = 0) (hn : n ≤ 1000000) :
    Calls Try.prog 19 #[.slice a n c] w fun e w' => ∃ v, e = .returned v ∧ w'.ownsRow w.heap.size 35 1 v D.length (rowU D) ∧ Below w.heap.size w w' := by
  have hlen := h.len
  have hcap := h.cap
  cases a with
  | none =>
    have hc := hnil rfl
    subst hc
    obtain rfl : n = 0 := by omega
    obtain rfl : D = [] := List.length_eq_zero_iff.1 hlen
    clear h
    go_enter Try.func19, Try.ntmps19
    go_wp2_with fail
    go_returns
    exact ⟨_, rfl, World.ownsRow_nil _ _ _ _, Below.refl _ _⟩
  | some ad =>
    have H0 := Lib.hid (row_zero (w := w.alloc (.cells #[] 35)) (g := w.heap.size) (B := w.heap.size) (size := 1) (e := 35) (heap_alloc_new _ _) (Nat.le_refl _))
    have h1 := Lib.hid (h.below (below_alloc w (.cells #[] 35)) (Nat.le_refl _))
    have B1 := Lib.hid (below_alloc w (.cells #[] 35))
    clear h
    go_enter Try.func19, Try.ntmps19
    go_wp2_with (at_builtin; refine wpList_append_src rfl _ _ 23 rfl w.heap.size 35 1 8 (.int .u64 0) Try.underlying23 infoU rfl (by decide) (by decide) _ 0 [] (some ad) n c (rowU D) H0.out (fun e => by cases e) (by rw [rowU_len, hlen, Nat.mul_one]) (slu_src h1.out) rfl rfl (u_one D) (by omega) (by omega) B1.out.size ?_; intro v4 w4 own4 grow4 sh4; obtain ⟨va4, vc4, rfl⟩ := sh4; have B4 := Lib.hid (B1.out.grown grow4 B1.out.size (fun k hk => by cases hk; exact Nat.le_refl _)); rw [Nat.zero_add, List.nil_append] at own4; have P4 := Lib.hid own4; rw [Nat.zero_add]; clear own4 grow4)
    go_returns
    exact ⟨_, rfl, by rw [hlen]; exact P4.out, B4.out⟩
end Go.Proofs.Ytlnklpnldmcopaa
/-
  A region that draws its order in a round of a loop over a function: it goes as it goes anywhere. No condition but that it defers nothing.
-/
namespace Go.Proofs.Ytlnklpnldmcopaa
set_option maxRecDepth 100000
open Go
theorem oper_round {l n : Nat} {P : Program} {o : Oper} {a : Act} {w : World} {K : Act → World → Prop} {Q : Exit → Act → World → Prop} (hd : ∀ c, o.op ≠ .defer c) (h : o.wp P a w K Q) : o.wpIn (Fence.wide.inRound l) n P a w K Q := by
  refine ⟨fun f _ => trivial, ?_⟩
  rw [Oper.semAt_eq _ _ _ hd]
  unfold Oper.wp at h
  generalize (execOp a.eval o).run P w = r at *
  have hn : ∀ {X : Prop}, (Fence.wide.inRound l).depth.isSome = true → X := fun h => by cases h
  cases r with
  | ok x w' =>
    cases x with
    | enter f args => exact ⟨hn, CallsIn.inRound l (callsIn_wide.2 h)⟩
    | row row args => exact ⟨hn, fun c cs _ => let ⟨v, w', r, s⟩ := h c cs; ⟨v, w', r, stepsIn_wide.2 s⟩⟩
    | value v => exact h
    | skip => exact h
    | defer d => exact h
    | _ => exact h.elim
  | halt x w' => cases x <;> first | exact h | exact h.elim
theorem any_round {l n : Nat} {P : Program} {ops : Array Oper} {Q : Exit → Act → World → Prop} {md : Region.Mode} (hd : ∀ (i : Nat) o, ops[i]? = some o → ∀ c, o.op ≠ .defer c) (hQ : ¬ LetsOut Q) : ∀ (fuel : Nat) (listed : Array Bool) (a : Act) (w : World), wpAny P md ops Q fuel listed a w → wpAnyIn (Fence.wide.inRound l) n P md ops Q fuel listed a w
  | 0, listed, a, w, h => h
  | fuel + 1, listed, a, w, h => by
    refine ⟨h.1, fun i hi => ?_⟩
    have h2 := h.2 i hi
    unfold wpOp at h2
    unfold wpOpIn
    cases ho : ops[i]? with
    | none => simp only [ho] at h2 ⊢; exact any_round hd hQ fuel _ a w h2
    | some o =>
      simp only [ho] at h2 ⊢
      split
      · rename_i hw
        rw [if_pos hw] at h2
        rcases h2 with h2 | ⟨_, h2⟩
        · exact Oper.wpIn_mono (fun a w h => any_round hd hQ fuel _ a w h) (oper_round (hd i o ho) h2)
        · exact absurd h2 hQ
      · rename_i hw
        rw [if_neg hw] at h2
        exact ⟨fun f _ => trivial, any_round hd hQ fuel _ _ w h2⟩
/-- The rule: the region is walked as outside, by a condition that is held. -/
theorem round_held {l n id : Nat} {P : Program} {ops : Array Oper} {Q : Exit → Act → World → Prop} {S : World → Prop} {a : Act} {w : World} (hd : ∀ (i : Nat) o, ops[i]? = some o → ∀ c, o.op ≠ .defer c) (hQ : ¬ LetsOut Q) (hm : P.follows .mixedOrders = true) (hS : S w.drew)
    (h : S w.drew → wpAnyH P .any ops Q S ops.size (Array.replicate ops.size false) a w.drew) : (Code.region id ops true).wpIn (Fence.wide.inRound l) n P Q a w :=
  wpIn_region_any hm (any_round hd hQ _ _ _ _ (wpAny_of_held _ _ _ _ (h hS)))
/-- No operation defers. -/
def noDefer (ops : Array Oper) : Bool := ops.all fun o => match o.op with | .defer _ => false | _ => true
theorem noDefer_spec {ops : Array Oper} (h : noDefer ops = true) : ∀ (i : Nat) o, ops[i]? = some o → ∀ c, o.op ≠ .defer c := fun i o ho c hc => by
  unfold noDefer at h
  rw [Array.all_eq_true'] at h
  have := h o (Array.mem_of_getElem? ho)
  rw [hc] at this
  cases this
end Go.Proofs.Ytlnklpnldmcopaa
