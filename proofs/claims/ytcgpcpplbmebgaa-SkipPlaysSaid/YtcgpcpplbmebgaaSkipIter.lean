/-
  The iterators of a skip list: their makers, and what they hand over. No condition but texts of less than 2^48 bytes.
-/
import Derived.Test.YtcgpcpplbmebgaaSkipPut
import Derived.Test.YtcgpcpplbmebgaaUntil
import Derived.Shelf.Abstract
import Derived.Shelf.RegionOpen
import Derived.WalkKit
import Derived.OwnWalkIn
import Derived.TacticsInMore
import Derived.LoopNIn
import Derived.LoopIn
namespace Go.Proofs.Ytcgpcpplbmebgaa
open Go.RowKit
attribute [local go_sem] eq_node ne_node eq_list
/-- The list that a pointer leads to, or none. -/
def LsA (q : Option Addr) (ns : List Nd) (w : World) : Prop := (q = none ∧ ns = []) ∨ ∃ p, q = some ⟨p, 0, none⟩ ∧ SkA p ns w
def LsLow (q : Option Addr) (ns : List Nd) (n₀ : Nat) : Prop := (∀ p, q = some ⟨p, 0, none⟩ → p < n₀) ∧ ∀ x ∈ ns, x.blk < n₀
theorem LsA.low {q : Option Addr} {ns : List Nd} {w : World} (h : LsA q ns w) : LsLow q ns w.heap.size := by
  rcases h with ⟨rfl, rfl⟩ | ⟨p, rfl, h⟩
  · exact ⟨fun p e => by (cases e), fun x hx => by cases hx⟩
  · exact ⟨fun p' e => by cases e; exact h.lt, fun x hx => h.nlt hx⟩
theorem LsA.below {q : Option Addr} {ns : List Nd} {w w' : World} {B : Nat} (h : LsA q ns w) (hl : LsLow q ns B) (hb : Below B w w') : LsA q ns w' := by
  rcases h with ⟨rfl, rfl⟩ | ⟨p, rfl, h⟩
  · exact .inl ⟨rfl, rfl⟩
  · refine .inr ⟨p, rfl, h.below hb fun b hb' => ?_⟩
    rcases hb' with rfl | ⟨x, hx, rfl⟩
    · exact hl.1 _ rfl
    · exact hl.2 x hx
theorem LsA.grow {q : Option Addr} {ns : List Nd} {w w' : World} (h : LsA q ns w) (hb : Below w.heap.size w w') : LsA q ns w' := h.below h.low hb
/-- An iterator's value, and its three boxes. -/
abbrev IterV (b : Nat) : Value := .func (.func 59) #[] #[.pointer (some ⟨b, 0, none⟩), .pointer (some ⟨b + 1, 0, none⟩), .pointer (some ⟨b + 2, 0, none⟩)]
structure IterAt (b : Nat) (q : Option Addr) (k : ByteArray) (s : Nat) (w : World) : Prop where
  c0 : w.cell? ⟨b, 0, none⟩ = some (.pointer q)
  c1 : w.cell? ⟨b + 1, 0, none⟩ = some (.string k)
  c2 : w.cell? ⟨b + 2, 0, none⟩ = some (.int .u64 (s : Int))
theorem IterAt.lt {b : Nat} {q : Option Addr} {k : ByteArray} {s : Nat} {w : World} (h : IterAt b q k s w) : b + 2 < w.heap.size := World.block_lt_of_cell? _ _ h.c2
theorem IterAt.below {b : Nat} {q : Option Addr} {k : ByteArray} {s : Nat} {w w' : World} (h : IterAt b q k s w) (hb : Below w.heap.size w w') : IterAt b q k s w' := by
  have := h.lt
  exact ⟨(hb.cell (p := ⟨b, 0, none⟩) (by simp only; omega)).trans h.c0, (hb.cell (p := ⟨b + 1, 0, none⟩) (by simp only; omega)).trans h.c1, (hb.cell (p := ⟨b + 2, 0, none⟩) (by simp only; omega)).trans h.c2⟩
theorem cell_one {w : World} {b : Nat} {v : Value} {T : TypeId} (h : w.heap[b]? = some (.cells #[v] T (0, 0))) : w.cell? ⟨b, 0, none⟩ = some v := by simp [World.cell?, h]
def IterDid (q : Option Addr) (k : ByteArray) (s : Nat) (w : World) (e : Ending) (w' : World) : Prop := ∃ b, w.heap.size ≤ b ∧ e = .returned (IterV b) ∧ IterAt b q k s w' ∧ Below w.heap.size w w'
set_option maxRecDepth 100000 in
set_option maxHeartbeats 2000000 in
theorem from_any (q : Option Addr) (k : ByteArray) (s : Nat) (w : World) : Calls Try.prog 45 #[.pointer q, .string k, .int .u64 (s : Int)] w (IterDid q k s w) := by
  have hmf : ∀ (fn : Fn) (first cap : Array Value) (w : World), (Instr.makeFunc fn first cap).run Try.prog w = .ok (.func fn first cap) w := fun _ _ _ _ => rfl
  have K : Hid (IterAt w.heap.size q k s (((w.alloc (.cells #[.pointer q] 24)).alloc (.cells #[.string k] 9)).alloc (.cells #[.int .u64 (s : Int)] 34)) ∧ Below w.heap.size w (((w.alloc (.cells #[.pointer q] 24)).alloc (.cells #[.string k] 9)).alloc (.cells #[.int .u64 (s : Int)] 34))) := Lib.hid (by
    have b1 := below_alloc w (.cells #[.pointer q] 24)
    have b2 := below_alloc (w.alloc (.cells #[.pointer q] 24)) (.cells #[.string k] 9)
    have b3 := below_alloc ((w.alloc (.cells #[.pointer q] 24)).alloc (.cells #[.string k] 9)) (.cells #[.int .u64 (s : Int)] 34)
    have n1 := heap_alloc_new w (.cells #[.pointer q] 24)
    have n2 := heap_alloc_new (w.alloc (.cells #[.pointer q] 24)) (.cells #[.string k] 9)
    have n3 := heap_alloc_new ((w.alloc (.cells #[.pointer q] 24)).alloc (.cells #[.string k] 9)) (.cells #[.int .u64 (s : Int)] 34)
    simp only [World.size_alloc] at n2 n3 b2 b3
    refine ⟨⟨?_, ?_, ?_⟩, below_of b1 (by rw [World.size_alloc]; exact (b2.trans (b3.mono (by omega))))⟩
    · exact cell_one ((b3.block _ (by omega)).trans ((b2.block _ (by omega)).trans n1))
    · exact cell_one ((b3.block _ (by omega)).trans n2)
    · exact cell_one n3)
  go_enter Try.func45, Try.ntmps45
  go_wp2_with fail
  go_returns
  exact ⟨_, Nat.le_refl _, rfl, K.out.1, K.out.2⟩
set_option maxRecDepth 100000 in
set_option maxHeartbeats 2000000 in
theorem all_iter (q : Option Addr) (w : World) : Calls Try.prog 47 #[.pointer q] w (IterDid q ⟨#[]⟩ 18446744073709551615 w) := by
  have C := Lib.hid (from_any q ⟨#[]⟩ 18446744073709551615 w)
  go_enter Try.func47, Try.ntmps47
  go_wp2_with fail
  refine C.out.mono ?_
  rintro e w' ⟨b, hb, rfl, h⟩
  have h := Lib.hid h
  go_wp2_with fail
  go_returns
  exact ⟨b, hb, rfl, h.out⟩
set_option maxRecDepth 100000 in
set_option maxHeartbeats 2000000 in
theorem from_iter (q : Option Addr) (k : ByteArray) (hk : k.size ≤ 281474976710656) (s : Nat) (w : World) : Calls Try.prog 46 #[.pointer q, .string k, .int .u64 (s : Int)] w (IterDid q k s w) := by
  have C0 := Lib.hid (clone_str k hk w)
  have C := fun u => Lib.hid (from_any q k s u)
  clear hk
  go_enter Try.func46, Try.ntmps46
  go_wp2_with fail
  refine C0.out.mono ?_
  rintro e w1 ⟨rfl, hb1⟩
  have hb1 := Lib.hid hb1
  go_wp2_with fail
  refine (C _).out.mono ?_
  rintro e w' ⟨b, hb, rfl, hI, hb2⟩
  have Q : Hid (w.heap.size ≤ b ∧ IterAt b q k s w' ∧ Below w.heap.size w w') := Lib.hid ⟨Nat.le_trans hb1.out.size hb, hI, below_of hb1.out hb2⟩
  clear hb hI hb2
  go_wp2_with fail
  go_returns
  exact ⟨b, Q.out.1, rfl, Q.out.2⟩
/-- How many nodes are left from where a pointer leads to. -/
def leftN (ns : List Nd) : Value → Nat
  | .pointer (some a) => (ns.dropWhile fun x => x.blk != a.block).length
  | _ => 0
theorem leftN_eq {ns pre : List Nd} {x : Nd} {r : List Nd} (hn : (ns.map (·.blk)).Nodup) (e : ns = pre ++ x :: r) : leftN ns (.pointer (some ⟨x.blk, 0, none⟩)) = r.length + 1 := by
  unfold leftN
  have : ns.dropWhile (fun y => y.blk != x.blk) = x :: r := by
    rw [e, List.dropWhile_append_of_pos]
    · simp
    · intro y hy
      obtain ⟨a, b, e2⟩ := List.append_of_mem hy
      have := blk_ne hn (a := a) (b := b) (c := r) (x := y) (y := x) (by rw [e, e2])
      simpa using this
  show (ns.dropWhile fun y => y.blk != x.blk).length = _
  rw [this]; rfl
theorem rowsN_snoc (a : List Nd) (x : Nd) : rowsN (a ++ [x]) = rowsN a ++ [x.row] := by simp [rowsN]
attribute [local go_sem] Oper.semAt_some
set_option maxRecDepth 100000 in
set_option maxHeartbeats 4000000 in
/-- The iterator's contract. -/
theorem iter_stops {q : Option Addr} {ns : List Nd} {w : World} {n₀ b : Nat} {k : ByteArray} {s : Nat} (hL : LsA q ns w) (hlow : LsLow q ns n₀) (hn₀ : n₀ ≤ w.heap.size) (hlen : ns.length ≤ 4611686018427387903) (hI : IterAt b q k s w) :
    SeqStopsK Fence.wide 5 Try.prog 59 #[.pointer (some ⟨b, 0, none⟩), .pointer (some ⟨b + 1, 0, none⟩), .pointer (some ⟨b + 2, 0, none⟩)] (fun x : Rw => #[rowV x]) (Below n₀) (fun ys => ys = rowsN (ns.drop (plN ns k s))) (fun pre => pre <+: rowsN (ns.drop (plN ns k s))) (rowsN (ns.drop (plN ns k s))).length w := by
  intro l J Jx W hW hJ hJx hY h0
  obtain ⟨c0, c1, c2⟩ := hI.below hW
  have hL := hL.below hlow (hW.mono hn₀)
  clear hI hW
  obtain ⟨D, hD⟩ := named (ns.drop (plN ns k s))
  rw [← hD.out] at hY ⊢
  rcases hL with ⟨rfl, rfl⟩ | ⟨p, rfl, H⟩
  · obtain rfl : D = [] := by rw [hD.out]; simp
    clear hD hlow
    refine callsIn_of_wp Try.func59 rfl trivial ?_ rfl
    simp only [Try.ntmps59, List.size_toArray, List.length_cons, List.length_nil, Nat.reduceAdd, Nat.reduceSub, Array.replicate_succ, Array.replicate_zero, List.push_toArray, List.append_toArray, List.nil_append, List.cons_append]
    gi_wp2
    refine bodyPost_ret (results_none rfl _ _ _) rfl ?_
    exact ⟨⟨_, rfl⟩, .inl h0⟩
  · have S := Lib.hid (search_any H (by omega) k s)
    obtain ⟨e, he⟩ := named (plN ns k s)
    rw [← he.out] at S hD
    have hel : e ≤ ns.length := by rw [he.out]; exact plN_le _ _ _
    obtain ⟨A, hA⟩ := named (ns.take e)
    have hAD : Hid (ns = A ++ D) := Lib.hid (by rw [hA.out, hD.out, List.take_append_drop])
    have b0 := Lib.hid (bfA_zero H hel)
    rw [← hA.out] at b0
    have l0 : Hid (∀ u, SkA p ns u → u.cell? (lnk p A 0) = some (.pointer (nxt 0 D))) := Lib.hid fun u hu => hu.at hAD.out (by omega) (by
      rcases List.eq_nil_or_concat A with e1 | ⟨a, y, e1⟩
      · exact .inl e1
      · exact .inr ⟨a, y, by rw [e1]; simp, by have := (hu.hgt y (by rw [hAD.out, e1]; simp)).1; omega⟩)
    rw [bfc_full] at S
    obtain ⟨bz, hbz⟩ := named (bfA p ns e)
    rw [← hbz.out] at S b0
    have HJ : Hid (∀ s A C, J s A → Below A.heap.size A C → J s C) := Lib.hid fun s A C h hb => hJ _ _ _ none h (grown_of_below hb) (fun r e => by cases e)
    have HY := Lib.hid hY
    have H0 := Lib.hid h0
    replace H := Lib.hid H
    clear hY h0 hJ hJx hel
    refine callsIn_of_wp Try.func59 rfl trivial ?_ rfl
    simp only [Try.ntmps59, List.size_toArray, List.length_cons, List.length_nil, Nat.reduceAdd, Nat.reduceSub, Array.replicate_succ, Array.replicate_zero, List.push_toArray, List.append_toArray, List.nil_append, List.cons_append]
    gi_wp2_with (refine ⟨trivial, ?_⟩; gi_at_call 42; refine (callsIn_wide.2 S.out).mono ?_; rintro e1 w1 ⟨rfl, hb1⟩; have d0 := b0.out; have d1 := l0.out _ (H.out.grow (below_of hb1 (below_alloc w1 (.cells #[.pointer (some (bz 0)), .pointer (some (bz 1)), .pointer (some (bz 2)), .pointer (some (bz 3)), .pointer (some (bz 4)), .pointer (some (bz 5)), .pointer (some (bz 6)), .pointer (some (bz 7)), .pointer (some (bz 8)), .pointer (some (bz 9)), .pointer (some (bz 10)), .pointer (some (bz 11))] 89)))); rw [← d0] at d1; clear d0)
    have hbV := below_of hb1 (below_alloc w1 (.cells #[.pointer (some (bz 0)), .pointer (some (bz 1)), .pointer (some (bz 2)), .pointer (some (bz 3)), .pointer (some (bz 4)), .pointer (some (bz 5)), .pointer (some (bz 6)), .pointer (some (bz 7)), .pointer (some (bz 8)), .pointer (some (bz 9)), .pointer (some (bz 10)), .pointer (some (bz 11))] 89))
    have HV := Lib.hid (H.out.grow hbV)
    have JV := Lib.hid (HJ.out _ _ _ H0.out hbV)
    generalize w1.alloc (.cells #[.pointer (some (bz 0)), .pointer (some (bz 1)), .pointer (some (bz 2)), .pointer (some (bz 3)), .pointer (some (bz 4)), .pointer (some (bz 5)), .pointer (some (bz 6)), .pointer (some (bz 7)), .pointer (some (bz 8)), .pointer (some (bz 9)), .pointer (some (bz 10)), .pointer (some (bz 11))] 89) = V at *
    have hh1 : Hid (∀ x ∈ ns, 0 < x.hgt) := Lib.hid fun x hx => by have := (H.out.hgt x hx).1; omega
    have hnd := Lib.hid H.out.nodup
    have hsm := Lib.hid H.out.small
    clear hbV hb1 d1 c0 c1 c2 S l0 b0 H H0
    gi_loopw [7] (fun v wr => ∃ (pre rest : List Nd), v = .pointer (nxt 0 rest) ∧ D = pre ++ rest ∧ SkA p ns wr ∧ J (rowsN pre) wr) (fun v _ => leftN ns v)
    case atStart => exact ⟨[], D, rfl, rfl, HV.out, JV.out⟩
    case round =>
      clear HV JV
      obtain ⟨pre, rest, rfl, hpr, hS, hJs⟩ := hrel
      cases rest with
      | nil =>
        rw [show nxt 0 [] = none from rfl]
        have Q : Hid (J (rowsN D) wr) := Lib.hid (by rw [hpr, List.append_nil]; exact hJs)
        clear hS hJs hpr
        gi_wp2
        go_end0
        exact ⟨⟨_, rfl⟩, .inl ⟨_, rfl, Q.out⟩⟩
      | cons x r =>
        have hxn : x ∈ ns := by rw [hAD.out, hpr]; simp
        have hx0 := nxt_hit (hh1.out x hxn) r
        have hns : Hid (ns = (A ++ pre) ++ x :: r) := Lib.hid (by rw [hAD.out, hpr]; simp)
        have hm : Hid (leftN ns (.pointer (some ⟨x.blk, 0, none⟩)) = r.length + 1) := Lib.hid (leftN_eq hnd.out hns.out)
        have hm2 : Hid (leftN ns (.pointer (nxt 0 r)) = r.length) := Lib.hid (by
          cases r with
          | nil => rfl
          | cons y r2 =>
            rw [nxt_hit (hh1.out y (by rw [hns.out]; simp))]
            exact leftN_eq (pre := A ++ pre ++ [x]) hnd.out (by rw [hns.out]; simp))
        have hpr2 : Hid (D = (pre ++ [x]) ++ r) := Lib.hid (by rw [hpr]; simp)
        obtain ⟨x0, x1, x2, x3⟩ := hS.node x hxn
        obtain ⟨s1, s2, _⟩ := hsm.out x hxn
        have CP := Lib.hid (copied_any x.row s1 s2)
        have hlt : Hid ((rowsN pre).length < (rowsN D).length) := Lib.hid (by rw [hpr]; simp [rowsN])
        have HY2 : Hid (∀ u, J (rowsN pre) u → YieldAt Fence.wide 4 Try.prog l #[rowV x.row] u fun e W' => (e = .returned (.bool true) ∧ J (rowsN pre ++ [x.row]) W' ∧ Below n₀ u W') ∨ (e = .returned (.bool false) ∧ Jx (rowsN pre ++ [x.row]) W')) := Lib.hid fun u hu => HY.out _ _ u hu hlt.out
        have SB : Hid (∀ u, Below wr.heap.size wr u → ∀ v, Below n₀ u v → SkA p ns v ∧ v.cell? ⟨x.blk, 4, none⟩ = some (.pointer (nxt 0 r))) := Lib.hid fun u hu v hv => by
          have h1 := (hS.grow hu).below hv fun b hb => by
            rcases hb with rfl | ⟨y, hy, rfl⟩
            · exact hlow.1 _ rfl
            · exact hlow.2 y hy
          exact ⟨h1, h1.link _ x r hns.out 0 (hh1.out x hxn)⟩
        have hJs := Lib.hid hJs
        rw [hx0]
        obtain ⟨⟨xk, xs, xi, xv⟩, xh, xb⟩ := x
        simp only at x0 x1 x2 x3 CP HY2 SB
        clear hS hpr hlt s1 s2 hxn
        gi_wp2_with (refine ⟨trivial, ?_⟩; gi_at_call 43; refine (callsIn_wide.2 (CP.out _)).mono ?_; rintro e w2 ⟨rfl, hb2⟩; obtain ⟨fn, tmps, assign, body, hy, hR1⟩ := HY2.out w2 (HJ.out _ _ _ hJs.out hb2))
        refine hR1.mono ?_
        rintro e C' (⟨rfl, hJ3, hk3⟩ | ⟨rfl, hJx3⟩)
        · obtain ⟨S3, n3⟩ := SB.out w2 hb2 C' hk3
          have S3 := Lib.hid S3
          replace hpr2 := hpr2
          gi_wp2
          go_roundw
          case rel => exact ⟨pre ++ [⟨⟨xk, xs, xi, xv⟩, xh, xb⟩], r, rfl, hpr2.out, S3.out, by rw [rowsN_snoc]; exact hJ3⟩
          case measure => show leftN ns _ < leftN ns _; rw [hm.out, hm2.out]; omega
        · have hpf : rowsN pre ++ [⟨xk, xs, xi, xv⟩] <+: rowsN D := ⟨rowsN r, by rw [hpr2.out]; simp [rowsN]⟩
          replace hpf := Lib.hid hpf
          gi_wp2
          refine bodyPost_ret (results_none rfl _ _ _) rfl ?_
          exact ⟨⟨_, rfl⟩, .inr ⟨_, hpf.out, hJx3⟩⟩
end Go.Proofs.Ytcgpcpplbmebgaa
