/-
  Lists of rows in memory; the contract of headsOf. Condition: at most 900 lists.
-/
import Derived.Test.YtkkegdhnkefogaaMergeTake
import Derived.Test.YtkkegdhnkefogaaMergeFirst
namespace Go.Proofs.Ytkkegdhnkefogaa
set_option maxRecDepth 100000
open Go.RowKit
/-- A slice of lists of rows; what it reaches lies below B. -/
structure RL (B : Nat) (p : Option Addr) (n c : Nat) (L : List (List Rw)) (w : World) : Prop where
  len : L.length = n
  cap : n ≤ c
  most : c ≤ 9223372036854775807
  addr : ∃ g o, (0 < n → p = some ⟨g, o, none⟩ ∧ g < B) ∧ ∀ (j : Nat) l, L[j]? = some l → ∃ a m d b q, w.cell? ⟨g, o + j, none⟩ = some (.slice a m d) ∧ Rs a m d b q l w ∧ (0 < m → b < B)
theorem RL.keep {B : Nat} {p : Option Addr} {n c : Nat} {L : List (List Rw)} {w w' : World} (h : RL B p n c L w) (hb : Below B w w') : RL B p n c L w' := by
  obtain ⟨g, o, h1, h2⟩ := h.addr
  refine ⟨h.len, h.cap, h.most, g, o, h1, fun j l hl => ?_⟩
  obtain ⟨a, m, d, b, q, e1, e2, e3⟩ := h2 j l hl
  have hj : 0 < n := by have := (List.getElem?_eq_some_iff.1 hl).1; have := h.len; omega
  exact ⟨a, m, d, b, q, (World.cell?_of_block (a := ⟨g, o + j, none⟩) (hb.block g (h1 hj).2)).trans e1, e2.keep (fun h0 => hb.block b (e3 h0)) hb.size, e3⟩
theorem RL.mono {B C : Nat} {p : Option Addr} {n c : Nat} {L : List (List Rw)} {w : World} (h : RL B p n c L w) (hC : B ≤ C) : RL C p n c L w := by
  obtain ⟨g, o, h1, h2⟩ := h.addr
  refine ⟨h.len, h.cap, h.most, g, o, fun h0 => ⟨(h1 h0).1, Nat.lt_of_lt_of_le (h1 h0).2 hC⟩, fun j l hl => ?_⟩
  obtain ⟨a, m, d, b, q, e1, e2, e3⟩ := h2 j l hl
  exact ⟨a, m, d, b, q, e1, e2, fun h0 => Nat.lt_of_lt_of_le (e3 h0) hC⟩
/-- One list of them. -/
theorem RL.one {B : Nat} {p : Option Addr} {n c : Nat} {L : List (List Rw)} {w : World} (h : RL B p n c L w) {j : Nat} (hj : j < n) : ∃ l g o a m d b q, L[j]? = some l ∧ p = some ⟨g, o, none⟩ ∧ w.cell? ⟨g, o + j, none⟩ = some (.slice a m d) ∧ Rs a m d b q l w ∧ (0 < m → b < B) := by
  obtain ⟨g, o, h1, h2⟩ := h.addr
  obtain ⟨l, hl⟩ : ∃ l, L[j]? = some l := ⟨_, List.getElem?_eq_getElem (by rw [h.len]; exact hj)⟩
  obtain ⟨a, m, d, b, q, e1, e2, e3⟩ := h2 j l hl
  exact ⟨l, g, o, a, m, d, b, q, hl, (h1 (by omega)).1, e1, e2, e3⟩
theorem itemsL_snoc : ∀ (k : Nat) (L : List (List Rw)) (l : List Rw), itemsL k (L ++ [l]) = itemsL k L ++ itemsL (k + (itemsL k L).length) [l]
  | k, [], l => by simp [itemsL]
  | k, [] :: L, l => by
    show itemsL k (L ++ [l]) = itemsL k L ++ itemsL (k + (itemsL k L).length) [l]
    exact itemsL_snoc k L l
  | k, (x :: r) :: L, l => by
    show ⟨k + 1, x, r⟩ :: itemsL (k + 1) (L ++ [l]) = ⟨k + 1, x, r⟩ :: (itemsL (k + 1) L ++ itemsL (k + ((itemsL (k + 1) L).length + 1)) [l])
    rw [itemsL_snoc (k + 1) L l, show k + 1 + (itemsL (k + 1) L).length = k + ((itemsL (k + 1) L).length + 1) by omega]
/-- The heap's lists, in the order in which they came. -/
structure Hd (B hp : Nat) (bs : List Nat) (it : Nat → It) (L : List (List Rw)) (w w' : World) : Prop where
  hp : Hp B hp bs.length bs it w'
  its : bs.map it = itemsL 0 L
  bel : Below B w w'
theorem Hd.len {B hp : Nat} {bs : List Nat} {it : Nat → It} {L : List (List Rw)} {w w' : World} (h : Hd B hp bs it L w w') : bs.length ≤ L.length := by
  have := congrArg List.length h.its
  rw [List.length_map] at this
  rw [this]; exact itemsL_len 0 L
theorem Hd.none {B hp : Nat} {bs : List Nat} {it : Nat → It} {L : List (List Rw)} {w w' : World} (h : Hd B hp bs it L w w') : Hd B hp bs it (L ++ [[]]) w w' := ⟨h.hp, by rw [h.its, itemsL_snoc]; simp [itemsL], h.bel⟩
theorem Hd.more {B hp : Nat} {bs : List Nat} {it : Nat → It} {L : List (List Rw)} {w w' w2 : World} (h : Hd B hp bs it L w w') {x : Rw} {r : List Rw} (hd : HpD B hp (bs.length + 1) (bs ++ [w'.heap.size]) (fun c => if c = w'.heap.size then ⟨bs.length + 1, x, r⟩ else it c) w' w2) : Hd B hp (bs ++ [w'.heap.size]) (fun c => if c = w'.heap.size then ⟨bs.length + 1, x, r⟩ else it c) (L ++ [x :: r]) w w2 := by
  refine ⟨?_, ?_, h.bel.trans hd.bel⟩
  · have := hd.hp
    rw [show (bs ++ [w'.heap.size]).length = bs.length + 1 by simp]
    exact this
  · have e0 : bs.length = (itemsL 0 L).length := by rw [← h.its, List.length_map]
    rw [List.map_append, itemsL_snoc, Nat.zero_add, ← e0, ← h.its]
    congr 1
    · refine List.map_congr_left fun b hb => ?_
      have : b ≠ w'.heap.size := fun e => by
        obtain ⟨a, n, c, bb, o, q1, _⟩ := (h.hp.item b hb).1
        have := (Array.getElem?_eq_some_iff.1 q1).1
        omega
      show (if b = w'.heap.size then _ else it b) = it b
      rw [if_neg this]
    · simp [itemsL]
set_option maxRecDepth 100000 in
set_option maxHeartbeats 8000000 in
theorem headsof_any {B : Nat} {p : Option Addr} {n c : Nat} {L : List (List Rw)} {w : World} (h : RL B p n c L w) (hn : n ≤ 900) (hB : B ≤ w.heap.size) :
    Calls Try.prog 24 #[.slice p n c] w fun e w' => e = .returned (.pointer (some ⟨w.heap.size, 0, none⟩)) ∧ ∃ k qs it, Hp B w.heap.size k qs it w' ∧ HeapP (fun a b => ltI (it a) (it b)) qs.length 0 qs ∧ (∃ bs : List Nat, qs.Perm bs ∧ bs.map it = itemsL 0 L) ∧ Below B w w' := by
  have H0 : Hid (Hd B w.heap.size [] (fun _ => ⟨0, ⟨⟨#[]⟩, 0, 0, ⟨#[]⟩⟩, []⟩) (L.take 0) w (w.alloc (.cells #[.slice none 0 0, .int .i64 0] 69))) := Lib.hid ⟨⟨⟨_, heap_alloc_new w _, World.ownsRow_nil _ _ _ _⟩, fun b hb => (by cases hb), List.nodup_nil, hB⟩, by simp [itemsL], (below_alloc w _).mono hB⟩
  have hlen := h.len
  have hcap := h.cap
  have hmost := h.most
  have hfin : Hid (∀ bs it u, Hd B w.heap.size bs it L w u → Calls Try.prog 42 #[.iface 49 (.pointer (some ⟨w.heap.size, 0, none⟩))] u fun e w' => e = .returned (.tuple #[]) ∧ ∃ k qs it, Hp B w.heap.size k qs it w' ∧ HeapP (fun a b => ltI (it a) (it b)) qs.length 0 qs ∧ (∃ bs : List Nat, qs.Perm bs ∧ bs.map it = itemsL 0 L) ∧ Below B w w') := Lib.hid (fun bs it u hu => by
    have hl := hu.len
    refine (init_any hu.hp (by omega)).mono ?_
    rintro e w' ⟨e1, qs, q1, q2, q3⟩
    exact ⟨e1, _, qs, it, q3.hp, q2, ⟨bs, q1, hu.its⟩, hu.bel.trans q3.bel⟩)
  have hfull : L.take n = L := by rw [← hlen, List.take_length]
  have hfull := Lib.hid hfull
  have h := Lib.hid h
  have hlen := Lib.hid hlen
  go_enter Try.func24, Try.ntmps24
  go_wp2_with fail
  go_loopw [9] (fun iv wr => ∃ (j : Nat) (bs : List Nat) (it : Nat → It), j ≤ n ∧ iv = .int .i64 (j : Int) ∧ Hid (Hd B w.heap.size bs it (L.take j) w wr)) (fun iv _ => n - (intOf iv).toNat)
  case atStart => exact ⟨0, [], _, Nat.zero_le _, rfl, H0⟩
  case round =>
    obtain ⟨j, bs, it, hj, rfl, hD⟩ := hrel
    by_cases hjn : j = n
    · subst hjn
      have i1 : ¬ (j : Int) < (j : Int) := by omega
      go_wp2_with (go_at_call 42; ((with_reducible refine (hfin.out bs it _ (by rw [hfull.out] at hD; exact hD.out)).mono ?_); rintro e w2 ⟨rfl, hh⟩; have hh := Lib.hid hh))
      go_returns
      exact ⟨rfl, hh.out⟩
    · have i1 : (j : Int) < (n : Int) := by omega
      have hjl : j < n := by omega
      have jw : wrap64 ((j : Int) + 1) = ((j + 1 : Nat) : Int) := by unfold wrap64; omega
      obtain ⟨l, g, o, a, m, d, b, q, hl, rfl, e1, e2, e3⟩ := (h.out.keep hD.out.bel).one hjl
      have e2 := Lib.hid e2
      have e3 := Lib.hid e3
      have hsn : L.take (j + 1) = L.take j ++ [l] := by rw [List.take_add_one, hl]; rfl
      have hsn := Lib.hid hsn
      cases l with
      | nil =>
        obtain rfl : m = 0 := e2.out.len.symm
        have D2 : Hid (Hd B w.heap.size bs it (L.take (j + 1)) w wr) := Lib.hid (by rw [hsn.out]; exact hD.out.none)
        go_wp2_with fail
        go_roundw
        case rel => exact ⟨j + 1, bs, it, hjl, by first | rfl | rw [jw], D2⟩
        case measure => simp [intOf] <;> omega
      | cons x r =>
        have hm : m = r.length + 1 := e2.out.len.symm
        have m1 : 0 < m := by omega
        have m2 : (0 : Int) < (m : Int) := by omega
        have hbl : bs.length ≤ 900 := by have := hD.out.len; rw [List.length_take] at this; omega
        have PC := Lib.hid (pushrows_any hD.out.hp (by omega) (by omega) e2.out (e3.out m1))
        clear hm
        go_wp2_with (go_at_call 41; ((with_reducible refine PC.out.mono ?_); rintro e w2 ⟨rfl, hd⟩; have D2 : Hid (Hd B w.heap.size (bs ++ [wr.heap.size]) (fun c => if c = wr.heap.size then ⟨bs.length + 1, x, r⟩ else it c) (L.take (j + 1)) w w2) := Lib.hid (by rw [hsn.out]; exact hD.out.more hd); clear hd))
        go_roundw
        case rel => exact ⟨j + 1, _, _, hjl, by first | rfl | rw [jw], D2⟩
        case measure => simp [intOf] <;> omega
end Go.Proofs.Ytkkegdhnkefogaa
