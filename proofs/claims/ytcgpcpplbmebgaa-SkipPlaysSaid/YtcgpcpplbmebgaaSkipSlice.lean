/-
  A slice of rows from some place on, as the laws take it; where a row of a list stands. No condition.
-/
import Derived.Test.YtcgpcpplbmebgaaSkipAwake
import Derived.Test.YtcgpcpplbmebgaaSkipMath2
import Derived.Test.YtcgpcpplbmebgaaSliceArg
import Derived.Test.YtcgpcpplbmebgaaLaidOut
namespace Go.Proofs.Ytcgpcpplbmebgaa
open Go.RowKit
set_option maxRecDepth 100000
theorem plc_self {l : List Rw} (hs : SortedR l) {i : Nat} {x : Rw} (hx : l[i]? = some x) : plc l x.key x.seq = i := by
  have h1 := plc_iff hs (k := x.key) (q := x.seq) hx
  rw [ahd_irrefl ⟨rfl, rfl⟩] at h1
  have hle : plc l x.key x.seq ≤ i := by
    rcases Nat.lt_or_ge i (plc l x.key x.seq) with h | h
    · exact absurd (h1.2 h) (by simp)
    · exact h
  rcases Nat.eq_or_lt_of_le hle with e | hlt
  · exact e
  · have hil := (List.getElem?_eq_some_iff.1 hx).1
    obtain ⟨y, hy⟩ : ∃ y, l[plc l x.key x.seq]? = some y := ⟨_, List.getElem?_eq_getElem (by omega)⟩
    have h3 : ahd y x.key x.seq = true := by
      have := List.pairwise_iff_getElem.1 hs _ _ (by omega) hil hlt
      rw [(List.getElem?_eq_some_iff.1 hy).2, (List.getElem?_eq_some_iff.1 hx).2] at this
      exact this
    exact absurd ((plc_iff hs hy).1 h3) (by omega)
theorem seek_self {l : SL} (hs : SortedR (rowsL l)) {i : Nat} {x : Rw} (hx : (rowsL l)[i]? = some x) : seekR ((rowsL l).drop (plL l x.key x.seq)) = .tuple #[rowV x, .bool true] := by
  unfold plL
  rw [plc_self hs hx]
  obtain ⟨h1, h2⟩ := List.getElem?_eq_some_iff.1 hx
  rw [List.drop_eq_getElem_cons h1, h2]
  rfl
theorem size_row (w : World) : (Go.sizeOf (Try.prog.elem 30)).run Try.prog w = .ok 4 w := by
  obtain ⟨i0, hi, hz0, hz1, hz2⟩ := info_parts (show (Try.prog.info? (Try.prog.elem 30)).map (fun i => (i.zero, i.size, i.bytes)) = some (some (.agg #[.string .empty, .int .u64 0, .int .i64 0, .string .empty]), 4, 48) by kernel_rfl)
  simp [Go.sizeOf, typeInfo, hi, hz1]
theorem addr_plus (b o k : Nat) : (⟨b, o, none⟩ : Addr).add k = ⟨b, o + k, none⟩ := by
  unfold Addr.add
  split
  · rename_i h0; rw [h0]; rfl
  · rfl
theorem rows_from {p : Option Addr} {n c b o e : Nat} {l : List Rw} {w : World} (h : Rs p n c b o l w) (he : e ≤ n) :
    ∃ p2, (∀ u, (Instr.slice 30 (.slice p n c) (some (.int .i64 (e : Int))) none none).run Try.prog u = .ok (.slice p2 (n - e) (c - e)) u) ∧ Rs p2 (n - e) (c - e) b (o + e * 4) (l.drop e) w := by
  have hc := h.cap
  have hm := h.most
  refine ⟨if c = e then p else p.map (·.add (e * 4)), fun u => ?_, by rw [List.length_drop, h.len], by omega, by omega, fun h0 => ?_, fun j x hx => ?_⟩
  · rw [run_slice_l u 30 p n c (by kernel_rfl) .i64 (e : Int) (by omega) (by omega), size_row]
    simp only [Result.andThen, sliced, Int.toNat_natCast]
  · obtain ⟨h1, h2⟩ := h.addr (by omega)
    subst h1
    rw [if_neg (by omega)]
    exact ⟨by simp only [Option.map_some, addr_plus], h2⟩
  · rw [List.getElem?_drop] at hx
    have := h.at' (e + j) x hx
    rw [show o + (e + j) * 4 = o + e * 4 + j * 4 by omega] at this
    exact this
theorem rows_upto {p : Option Addr} {n c b o e : Nat} {l : List Rw} {w : World} (h : Rs p n c b o l w) (he : e ≤ n) : Rs p e c b o (l.take e) w := by
  have hc := h.cap
  refine ⟨by rw [List.length_take, h.len]; omega, by omega, h.most, fun h0 => h.addr (by omega), fun j x hx => ?_⟩
  rw [List.getElem?_take] at hx
  split at hx
  · exact h.at' j x hx
  · cases hx
/-- What is handed back, as a slice of rows. -/
theorem rs_of_gave {l : List Rw} {w : World} {e : Ending} {w' : World} (h : GaveR l w e w') : ∃ p c b, e = .returned (.slice p l.length c) ∧ Rs p l.length c b 0 l w' ∧ Below w.heap.size w w' := by
  obtain ⟨v, rfl, hrow, hb⟩ := h
  obtain ⟨p, c, b, rfl, hr, _⟩ := rs_of_row hrow
  exact ⟨p, c, b, rfl, hr, hb⟩
/-- A row stands ahead, as the laws say it. -/
theorem ahd_parts (x : Rw) (k : ByteArray) (q : Nat) :
    (Op.bytesLess x.key.toList k.toList = true ∧ ahd x k q = true) ∨ (Op.bytesLess x.key.toList k.toList = false ∧ (x.key.toList == k.toList) = true ∧ ahd x k q = decide ((q : Int) < (x.seq : Int))) ∨ (Op.bytesLess x.key.toList k.toList = false ∧ (x.key.toList == k.toList) = false ∧ ahd x k q = false) := by
  have e2 : (decide (q < x.seq) : Bool) = decide ((q : Int) < (x.seq : Int)) := by congr 1; simp
  unfold ahd
  rw [less_before]
  by_cases e : x.key.toList = k.toList
  · rw [if_pos e]
    right; left
    exact ⟨by rw [e, WideAt.bytes_irrefl], by simpa using e, e2⟩
  · rw [if_neg e]
    cases h : bytesBefore x.key.toList k.toList with
    | true => exact .inl ⟨rfl, rfl⟩
    | false => exact .inr (.inr ⟨rfl, by simpa using e, rfl⟩)
theorem same_rows {p1 p2 : Option Addr} {n1 c1 b1 o1 n2 c2 b2 o2 : Nat} {l : List Rw} {w : World} (h1 : Rs p1 n1 c1 b1 o1 l w) (h2 : Rs p2 n2 c2 b2 o2 l w) :
    Calls Try.prog 14 #[.slice p1 n1 c1, .slice p2 n2 c2] w fun e w' => e = .returned (.bool true) ∧ Below w.heap.size w w' := by
  have := samerows_any h1 h2
  simpa using this
theorem rs_row_at {w : World} {B : Nat} {a : Option Addr} {n c : Nat} {l : List Rw} (h : w.ownsRow B 36 4 (.slice a n c) n (rowR l)) (hl : l.length = n) : ∃ b, Rs a n c b 0 l w := by
  subst hl
  obtain ⟨a', c', b, e, r, _⟩ := rs_of_row h
  cases e
  exact ⟨b, r⟩
theorem grown_below {w w2 w3 : World} {o : Obj} {e : TypeId} {size n : Nat} {v : Value} {xs : List Value} (h : Below w.heap.size w w2) (hr : w2.ownsRow w.heap.size e size v n xs) (hg : (w2.alloc o).grownBy w3 v.ownBlock) : Below w.heap.size w w3 := by
  have h1 := h.alloc h.size o
  exact h1.grown hg h1.size (fun k hk => (World.ownsRow.lt hr k hk).1)
end Go.Proofs.Ytcgpcpplbmebgaa
