/-
  BatchRows: the rows of every batch, the number behind it, and whether two are the same, are what the document says. No condition.
-/
import Derived.Test.YtaanclnppfpocaaBatchAwake
import Derived.Test.YtaanclnppfpocaaBatchOwn
import Derived.Test.YtaanclnppfpocaaBatchRowsRef
import Derived.Test.YtaanclnppfpocaaBatchArg
import Derived.Deep.RegionHeld
import Derived.Deep.DrawnRows
namespace Go.Proofs.Ytaanclnppfpocaa
open Go.RowKit
attribute [local go_sem ↓] Go.wp_at_zero Go.wp_at_succ
/-- What stands in a walk of BatchRows: three boxes, the rows, the writes. -/
structure BR (N2 s1 : Nat) (p1 : Option Addr) (n1 c1 b1 o1 : Nat) (l1 : List Wr) (s2 : Nat) (p2 : Option Addr) (n2 c2 b2 o2 : Nat) (l2 : List Wr) (g gc : Nat) (rp : Option Addr) (rn rc rb : Nat) (w V : World) : Prop where
  f0 : V.heap[w.heap.size]? = some (.cells #[.int .u64 (s1 : Int), .slice p1 n1 c1] 25 (0, 0))
  f1 : V.heap[w.heap.size + 1]? = some (.cells #[.int .u64 (s2 : Int), .slice p2 n2 c2] 25 (0, 0))
  f2 : V.heap[N2]? = some (.cells #[.int .u64 (s1 : Int), .slice (some ⟨g, 0, none⟩) n1 gc] 25 (0, 0))
  rows : Rs rp rn rc rb 0 (rowsB s1 l1) V
  own : Ws (some ⟨g, 0, none⟩) (n1 + 1) gc g 0 (l1 ++ [markW]) V
  wa : Ws p1 n1 c1 b1 o1 l1 V
  wb : Ws p2 n2 c2 b2 o2 l2 V
  bel : Below w.heap.size w V
theorem BR.below {N2 s1 : Nat} {p1 : Option Addr} {n1 c1 b1 o1 : Nat} {l1 : List Wr} {s2 : Nat} {p2 : Option Addr} {n2 c2 b2 o2 : Nat} {l2 : List Wr} {g gc : Nat} {rp : Option Addr} {rn rc rb : Nat} {w V V' : World} (h : BR N2 s1 p1 n1 c1 b1 o1 l1 s2 p2 n2 c2 b2 o2 l2 g gc rp rn rc rb w V) (hb : Below V.heap.size V V') :
    BR N2 s1 p1 n1 c1 b1 o1 l1 s2 p2 n2 c2 b2 o2 l2 g gc rp rn rc rb w V' :=
  ⟨(hb.block _ (Array.getElem?_eq_some_iff.1 h.f0).1).trans h.f0, (hb.block _ (Array.getElem?_eq_some_iff.1 h.f1).1).trans h.f1, (hb.block _ (Array.getElem?_eq_some_iff.1 h.f2).1).trans h.f2,
   h.rows.below hb (Nat.le_refl _), h.own.below hb (Nat.le_refl _), h.wa.below hb (Nat.le_refl _), h.wb.below hb (Nat.le_refl _), h.bel.trans (hb.mono h.bel.size)⟩
theorem BR.drew {N2 s1 : Nat} {p1 : Option Addr} {n1 c1 b1 o1 : Nat} {l1 : List Wr} {s2 : Nat} {p2 : Option Addr} {n2 c2 b2 o2 : Nat} {l2 : List Wr} {g gc : Nat} {rp : Option Addr} {rn rc rb : Nat} {w V : World} (h : BR N2 s1 p1 n1 c1 b1 o1 l1 s2 p2 n2 c2 b2 o2 l2 g gc rp rn rc rb w V) :
    BR N2 s1 p1 n1 c1 b1 o1 l1 s2 p2 n2 c2 b2 o2 l2 g gc rp rn rc rb w V.drew := h.below (Below.refl _ _).drew
theorem BR.part {N2 s1 : Nat} {p1 : Option Addr} {n1 c1 b1 o1 : Nat} {l1 : List Wr} {s2 : Nat} {p2 : Option Addr} {n2 c2 b2 o2 : Nat} {l2 : List Wr} {g gc : Nat} {rp : Option Addr} {rn rc rb : Nat} {w V : World} (h : BR N2 s1 p1 n1 c1 b1 o1 l1 s2 p2 n2 c2 b2 o2 l2 g gc rp rn rc rb w V) :
    Ws (some ⟨g, 0, none⟩) n1 gc g 0 l1 V := by
  have := h.own.take (k := n1) (by omega)
  rw [← h.wa.len, marked_take] at this
  rw [← h.wa.len]; exact this
theorem BR.cells {N2 s1 : Nat} {p1 : Option Addr} {n1 c1 b1 o1 : Nat} {l1 : List Wr} {s2 : Nat} {p2 : Option Addr} {n2 c2 b2 o2 : Nat} {l2 : List Wr} {g gc : Nat} {rp : Option Addr} {rn rc rb : Nat} {w V : World} (h : BR N2 s1 p1 n1 c1 b1 o1 l1 s2 p2 n2 c2 b2 o2 l2 g gc rp rn rc rb w V) :
    V.cell? ⟨w.heap.size, 0, none⟩ = some (.int .u64 (s1 : Int)) ∧ V.cell? ⟨w.heap.size, 1, none⟩ = some (.slice p1 n1 c1) ∧ V.cell? ⟨w.heap.size + 1, 0, none⟩ = some (.int .u64 (s2 : Int)) ∧ V.cell? ⟨w.heap.size + 1, 1, none⟩ = some (.slice p2 n2 c2) ∧ V.cell? ⟨N2, 0, none⟩ = some (.int .u64 (s1 : Int)) ∧ V.cell? ⟨N2, 1, none⟩ = some (.slice (some ⟨g, 0, none⟩) n1 gc) :=
  ⟨(pair_cells h.f0).1, (pair_cells h.f0).2, (pair_cells h.f1).1, (pair_cells h.f1).2, (pair_cells h.f2).1, (pair_cells h.f2).2⟩
/-- Where one block that is none of these turns, all stands. -/
theorem BR.but {N2 s1 : Nat} {p1 : Option Addr} {n1 c1 b1 o1 : Nat} {l1 : List Wr} {s2 : Nat} {p2 : Option Addr} {n2 c2 b2 o2 : Nat} {l2 : List Wr} {g gc : Nat} {rp : Option Addr} {rn rc rb : Nat} {w V V' : World} (h : BR N2 s1 p1 n1 c1 b1 o1 l1 s2 p2 n2 c2 b2 o2 l2 g gc rp rn rc rb w V) {B q : Nat} (hq : B ≤ q) (h0 : w.heap.size + 1 < B) (h2 : N2 < B) (h3 : 0 < rn → rb < B) (h4 : g < B) (h5 : 0 < n1 → b1 < B) (h6 : 0 < n2 → b2 < B) (hb : But q V V') :
    BR N2 s1 p1 n1 c1 b1 o1 l1 s2 p2 n2 c2 b2 o2 l2 g gc rp rn rc rb w V' := by
  have k : ∀ j, j < V.heap.size → j < B → V'.heap[j]? = V.heap[j]? := fun j hj hB => hb.block j hj (by omega)
  refine ⟨(k _ (Array.getElem?_eq_some_iff.1 h.f0).1 (by omega)).trans h.f0, (k _ (Array.getElem?_eq_some_iff.1 h.f1).1 h0).trans h.f1, (k _ (Array.getElem?_eq_some_iff.1 h.f2).1 h2).trans h.f2, h.rows.keep (fun h' => k _ (h.rows.addr h').2 (h3 h')) hb.size, h.own.keep (fun h' => k _ (h.own.addr h').2 h4) hb.size, h.wa.keep (fun h' => k _ (h.wa.addr h').2 (h5 h')) hb.size, h.wb.keep (fun h' => k _ (h.wb.addr h').2 (h6 h')) hb.size, ?_⟩
  exact h.bel.trans (hb.below (by omega) h.bel.size)
set_option maxRecDepth 100000 in
set_option maxHeartbeats 2000000 in
theorem rows_big (s1 : Nat) (p1 : Option Addr) (n1 c1 b1 o1 : Nat) (l1 : List Wr) (s2 : Nat) (p2 : Option Addr) (n2 c2 b2 o2 : Nat) (l2 : List Wr) (w : World) (hA : Ws p1 n1 c1 b1 o1 l1 w) (hB : Ws p2 n2 c2 b2 o2 l2 w) (hbig : ¬ (n1 ≤ 300 ∧ n2 ≤ 300)) :
    Calls Try.prog 5 #[batchV s1 p1 n1 c1, batchV s2 p2 n2 c2] w fun e w' => e = .returned (.bool true) ∧ Below w.heap.size w w' := by
  have AW := Lib.hid fun u => awake_any u
  have hz1 := hA.most
  have hz2 := hB.most
  obtain ⟨K, E0, E1⟩ := box_two w s1 s2 (.slice p1 n1 c1) (.slice p2 n2 c2)
  obtain ⟨x0, x1⟩ := pair_cells E0
  obtain ⟨y0, y1⟩ := pair_cells E1
  have K := Lib.hid K
  have hall : decide ((300 : Int) < (n1 : Int)) = true ∨ (decide ((300 : Int) < (n1 : Int)) = false ∧ decide ((300 : Int) < (n2 : Int)) = true) := by
    simp only [decide_eq_true_eq, decide_eq_false_iff_not]
    omega
  clear hA hB E0 E1
  rcases hall with d1 | ⟨d1, d2⟩
  all_goals
    go_enter Try.func5, Try.ntmps5
    go_wp2_with fail
    refine (AW.out _).mono ?_
    rintro e w' ⟨rfl, hb⟩
    go_wp2_with fail
    go_returns
    exact ⟨rfl, K.out.trans (hb.mono K.out.size)⟩
open Classical in
set_option maxRecDepth 100000 in
set_option maxHeartbeats 8000000 in
theorem rows_main (s1 : Nat) (p1 : Option Addr) (n1 c1 b1 o1 : Nat) (l1 : List Wr) (s2 : Nat) (p2 : Option Addr) (n2 c2 b2 o2 : Nat) (l2 : List Wr) (w : World) (hA : Ws p1 n1 c1 b1 o1 l1 w) (hB : Ws p2 n2 c2 b2 o2 l2 w) (h1 : n1 ≤ 300) (h2 : n2 ≤ 300) :
    Calls Try.prog 5 #[batchV s1 p1 n1 c1, batchV s2 p2 n2 c2] w fun e w' => e = .returned (.bool true) ∧ Below w.heap.size w w' := by
  have AW := Lib.hid fun u => awake_any u
  have hz1 := hA.most
  have hz2 := hB.most
  have hlen := Lib.hid hA.len
  obtain ⟨K, E0, E1⟩ := box_two w s1 s2 (.slice p1 n1 c1) (.slice p2 n2 c2)
  obtain ⟨x0, x1⟩ := pair_cells E0
  obtain ⟨y0, y1⟩ := pair_cells E1
  have K := Lib.hid K
  have E0 := Lib.hid E0
  have E1 := Lib.hid E1
  have d1 : decide ((300 : Int) < (n1 : Int)) = false := by rw [decide_eq_false_iff_not]; omega
  have d2 : decide ((300 : Int) < (n2 : Int)) = false := by rw [decide_eq_false_iff_not]; omega
  have OW := Lib.hid fun u (hu : Ws p1 n1 c1 b1 o1 l1 u) => own_any (seq := s1) hu h1
  have RO : Hid (∀ u a' n' c' b' o', Ws a' n' c' b' o' l1 u → Calls Try.prog 18 #[batchV s1 a' n' c'] u fun e w' => ∃ ra rn rc rb, e = .returned (.slice ra rn rc) ∧ Rs ra rn rc rb 0 (rowsB s1 l1) w' ∧ (0 < rn → u.heap.size ≤ rb ∧ ∃ cur, w'.heap[rb]? = some (.cells cur 40 (0, 0)) ∧ cur.size = rn * 4) ∧ Below u.heap.size u w') := Lib.hid fun u a' n' c' b' o' hu => (rows_any hu).mono fun e w' hh => rs_of_rows hh
  have hA := Lib.hid hA
  have hB := Lib.hid hB
  go_enter Try.func5, Try.ntmps5
  go_wp2_with fail
  generalize (w.alloc (.cells #[.int .u64 (s1 : Int), .slice p1 n1 c1] 25)).alloc (.cells #[.int .u64 (s2 : Int), .slice p2 n2 c2] 25) = V0 at *
  refine (OW.out V0 (hA.out.below K.out (Nat.le_refl _))).mono ?_
  rintro e V1 ⟨g, gc, rfl, hg, hO, q1⟩
  have K1 := Lib.hid (K.out.trans (q1.mono K.out.size))
  have E0' := Lib.hid ((q1.block w.heap.size (Array.getElem?_eq_some_iff.1 E0.out).1).trans E0.out)
  have E1' := Lib.hid ((q1.block (w.heap.size + 1) (Array.getElem?_eq_some_iff.1 E1.out).1).trans E1.out)
  have hO := Lib.hid hO
  have Z1 : Hid (w.heap.size + 1 < V1.heap.size) := Lib.hid (Array.getElem?_eq_some_iff.1 E1'.out).1
  have K2 := Lib.hid (K1.out.alloc K1.out.size (.cells #[.int .u64 (s1 : Int), .slice (some ⟨g, 0, none⟩) n1 gc] 25))
  have F0 := Lib.hid ((Lib.alloc_old V1 (.cells #[.int .u64 (s1 : Int), .slice (some ⟨g, 0, none⟩) n1 gc] 25) _ (Array.getElem?_eq_some_iff.1 E0'.out).1).trans E0'.out)
  have F1 := Lib.hid ((Lib.alloc_old V1 (.cells #[.int .u64 (s1 : Int), .slice (some ⟨g, 0, none⟩) n1 gc] 25) _ (Array.getElem?_eq_some_iff.1 E1'.out).1).trans E1'.out)
  have F2 := Lib.hid (heap_alloc_new V1 (.cells #[.int .u64 (s1 : Int), .slice (some ⟨g, 0, none⟩) n1 gc] 25))
  have O2 := Lib.hid (hO.out.below (below_alloc V1 (.cells #[.int .u64 (s1 : Int), .slice (some ⟨g, 0, none⟩) n1 gc] 25)) (Nat.le_refl _))
  have tk : Hid (∀ u, Ws (some ⟨g, 0, none⟩) (n1 + 1) gc g 0 (l1 ++ [markW]) u → Ws (some ⟨g, 0, none⟩) n1 gc g 0 l1 u) := Lib.hid fun u hu => by have := hu.take (k := n1) (by omega); rw [← hlen.out, marked_take] at this; rw [← hlen.out]; exact this
  clear hO E0 E1 E0' E1' x0 x1 y0 y1 q1 OW K
  go_wp2_with fail
  generalize V1.alloc (.cells #[.int .u64 (s1 : Int), .slice (some ⟨g, 0, none⟩) n1 gc] 25) = V2 at *
  generalize V1.heap.size = N2 at *
  refine (RO.out V2 _ _ _ _ _ (tk.out V2 O2.out)).mono ?_
  rintro e V3 ⟨rp, rn, rc, rb, rfl, hR, _, q3⟩
  have B3 : Hid (BR N2 s1 p1 n1 c1 b1 o1 l1 s2 p2 n2 c2 b2 o2 l2 g gc rp rn rc rb w V3) := Lib.hid ⟨(q3.block _ (Array.getElem?_eq_some_iff.1 F0.out).1).trans F0.out, (q3.block _ (Array.getElem?_eq_some_iff.1 F1.out).1).trans F1.out, (q3.block _ (Array.getElem?_eq_some_iff.1 F2.out).1).trans F2.out, hR, O2.out.below q3 (Nat.le_refl _), (hA.out.below K2.out (Nat.le_refl _)).below q3 (Nat.le_refl _), (hB.out.below K2.out (Nat.le_refl _)).below q3 (Nat.le_refl _), K2.out.trans (q3.mono K2.out.size)⟩
  obtain ⟨_, _, _, _, z0, z1⟩ := B3.out.cells
  have hR := Lib.hid hR
  clear q3 F0 F1 F2 O2 K2 K1
  go_wp2_with fail
  refine (RO.out V3 _ _ _ _ _ B3.out.part).mono ?_
  rintro e V4 ⟨mp, mn, mc, mb, rfl, hM, hmb, q4⟩
  have B4 := Lib.hid (B3.out.below q4)
  have hlim : Hid (w.heap.size + 1 < V3.heap.size ∧ N2 < V3.heap.size ∧ (0 < rn → rb < V3.heap.size) ∧ g < V3.heap.size ∧ (0 < n1 → b1 < V3.heap.size) ∧ (0 < n2 → b2 < V3.heap.size)) := Lib.hid ⟨(Array.getElem?_eq_some_iff.1 B3.out.f1).1, (Array.getElem?_eq_some_iff.1 B3.out.f2).1, fun h => (B3.out.rows.addr h).2, (B3.out.own.addr (by omega)).2, fun h => (B3.out.wa.addr h).2, fun h => (B3.out.wb.addr h).2⟩
  have hmlen := hM.len
  have hmcap := hM.cap
  have hmmost := hM.most
  have hmaddr := Lib.hid hM.addr
  have hmb := Lib.hid hmb
  have B3s : Hid (w.heap.size ≤ V3.heap.size) := Lib.hid B3.out.bel.size
  clear B3 z0 z1 q4 hM hR RO
  go_wp2_with fail
  go_loopw [8] (fun i wr => ∃ j : Nat, j ≤ mn ∧ i = .int .i64 (j : Int) ∧ (0 < mn → But mb V4 wr ∧ ∃ cur, wr.heap[mb]? = some (.cells cur 40 (0, 0)) ∧ cur.size = mn * 4) ∧ (mn = 0 → Below V4.heap.size V4 wr)) (fun i _ => mn - (intOf i).toNat)
  case atStart => exact ⟨0, Nat.zero_le _, rfl, fun h => ⟨But.refl _ _, (hmb.out h).2⟩, fun _ => Below.refl _ _⟩
  case round =>
    obtain ⟨j, hj, rfl, hcur, hnil⟩ := hrel
    by_cases hlt : j < mn
    · obtain ⟨hbut, cur, hc, hcs⟩ := hcur (by omega)
      obtain ⟨rfl, _⟩ := hmaddr.out (by omega)
      have e0 : ∃ v, wr.cell? ⟨mb, j * 4 + 2, none⟩ = some v := ⟨cur[j * 4 + 2]'(by omega), by simp [World.cell?, hc]⟩
      obtain ⟨v0, e0⟩ := e0
      have e1 : wr.frozen? ⟨mb, j * 4 + 2, none⟩ = false := by simp [World.frozen?, hc]
      have hbut2 : Hid (But mb V4 (wr.setCell ⟨mb, j * 4 + 2, none⟩ (.int .i64 99))) := Lib.hid (hbut.setCell rfl _)
      have hcur2 : Hid (∃ cur, (wr.setCell ⟨mb, j * 4 + 2, none⟩ (.int .i64 99)).heap[mb]? = some (.cells cur 40 (0, 0)) ∧ cur.size = mn * 4) := Lib.hid ⟨_, heap_setCell_same _ _ _ _ _ _ hc, by simpa using hcs⟩
      have hbut := Lib.hid hbut
      have hc := Lib.hid hc
      clear hcur hnil
      go_wp2_with fail
      go_roundw
      case rel => exact ⟨j + 1, by omega, by go_num, fun _ => ⟨hbut2.out, hcur2.out⟩, fun h0 => by omega⟩
      case measure => simp [intOf]; omega
    · have hjn : j = mn := by omega
      subst hjn
      have B5 : Hid (BR N2 s1 p1 n1 c1 b1 o1 l1 s2 p2 n2 c2 b2 o2 l2 g gc rp rn rc rb w wr) := Lib.hid (by
        by_cases h0 : 0 < j
        · exact B4.out.but (hmb.out h0).1 hlim.out.1 hlim.out.2.1 hlim.out.2.2.1 hlim.out.2.2.2.1 hlim.out.2.2.2.2.1 hlim.out.2.2.2.2.2 (hcur h0).1
        · exact B4.out.below (hnil (by omega)))
      have RR := Lib.hid fun u (hu : Ws p1 n1 c1 b1 o1 l1 u) => refrows_any (seq := s1) hu
      have SR : Hid (∀ u q1' m1' k1' d1' q2' m2' k2' d2', Rs q1' m1' k1' d1' 0 (rowsB s1 l1) u → Rs q2' m2' k2' d2' 0 (rowsB s1 l1) u → Calls Try.prog 19 #[.slice q1' m1' k1', .slice q2' m2' k2'] u fun e w' => e = .returned (.bool true) ∧ Below u.heap.size u w') := Lib.hid fun u q1' m1' k1' d1' q2' m2' k2' d2' h1' h2' => by
        have := samerows_any h1' h2'
        simpa using this
      have NX : Hid (∀ u a' n' c' b' o', Ws a' n' c' b' o' l1 u → Calls Try.prog 21 #[batchV s1 a' n' c'] u fun e w' => e = .returned (.int .u64 (nextB s1 l1 : Int)) ∧ Below u.heap.size u w') := Lib.hid fun u a' n' c' b' o' hu => next_batch hu
      have NR : Hid (∀ u, Ws p1 n1 c1 b1 o1 l1 u → Calls Try.prog 22 #[batchV s1 p1 n1 c1] u fun e w' => e = .returned (.int .u64 (nextB s1 l1 : Int)) ∧ Below u.heap.size u w') := Lib.hid fun u hu => refnext_any hu
      have SO : Hid (∀ u a' n' c' b' o', Ws a' n' c' b' o' l1 u → Ws p2 n2 c2 b2 o2 l2 u → Calls Try.prog 23 #[batchV s1 a' n' c', batchV s2 p2 n2 c2] u fun e w' => e = .returned (.bool (decide (s1 = s2 ∧ l1 = l2))) ∧ Below u.heap.size u w') := Lib.hid fun u a' n' c' b' o' hu hv => same_batch hu hv
      have SRF : Hid (∀ u, Ws p1 n1 c1 b1 o1 l1 u → Ws p2 n2 c2 b2 o2 l2 u → Calls Try.prog 17 #[batchV s1 p1 n1 c1, batchV s2 p2 n2 c2] u fun e w' => e = .returned (.bool (decide (s1 = s2 ∧ l1 = l2))) ∧ Below u.heap.size u w') := Lib.hid fun u hu hv => refsame_any hu hv
      have SA : Hid (∀ u a' n' c' b' o', Ws a' n' c' b' o' l1 u → Ws p1 n1 c1 b1 o1 l1 u → Calls Try.prog 23 #[batchV s1 a' n' c', batchV s1 p1 n1 c1] u fun e w' => e = .returned (.bool true) ∧ Below u.heap.size u w') := Lib.hid fun u a' n' c' b' o' hu hv => by
        have := same_batch (s1 := s1) (s2 := s1) hu hv
        simpa using this
      have KA : Hid (∀ u, Ws (some ⟨g, 0, none⟩) (n1 + 1) gc g 0 (l1 ++ [markW]) u → Ws p1 n1 c1 b1 o1 l1 u → Calls Try.prog 14 #[batchV s1 (some ⟨g, 0, none⟩) n1 gc, batchV s1 p1 n1 c1] u fun e w' => e = .returned (.bool true) ∧ Below u.heap.size u w') := Lib.hid fun u h1' h2' => kept_any h1' h2' h1
      obtain ⟨D, hD⟩ := named (decide (s1 = s2 ∧ l1 = l2))
      obtain ⟨M, hM⟩ := named (nextB s1 l1)
      rw [← hD.out] at SO SRF
      rw [← hM.out] at NX NR
      have e1 : (D == D) = true := by simp
      have e2 : ((M : Int) == (M : Int)) = true := by simp
      clear hD hM hcur hnil B4 hmb hlim hmaddr
      have s5 : Hid (wr.cell? ⟨w.heap.size, 0, none⟩ = some (.int .u64 (s1 : Int)) ∧ wr.cell? ⟨w.heap.size, 1, none⟩ = some (.slice p1 n1 c1) ∧ wr.cell? ⟨w.heap.size + 1, 0, none⟩ = some (.int .u64 (s2 : Int)) ∧ wr.cell? ⟨w.heap.size + 1, 1, none⟩ = some (.slice p2 n2 c2) ∧ wr.cell? ⟨N2, 0, none⟩ = some (.int .u64 (s1 : Int)) ∧ wr.cell? ⟨N2, 1, none⟩ = some (.slice (some ⟨g, 0, none⟩) n1 gc)) := Lib.hid B5.out.cells
      go_wp2_with fail
      go_region_held (fun v => v.cell? ⟨w.heap.size, 0, none⟩ = some (.int .u64 (s1 : Int)) ∧ v.cell? ⟨w.heap.size, 1, none⟩ = some (.slice p1 n1 c1) ∧ v.cell? ⟨w.heap.size + 1, 0, none⟩ = some (.int .u64 (s2 : Int)) ∧ v.cell? ⟨w.heap.size + 1, 1, none⟩ = some (.slice p2 n2 c2) ∧ v.cell? ⟨N2, 0, none⟩ = some (.int .u64 (s1 : Int)) ∧ v.cell? ⟨N2, 1, none⟩ = some (.slice (some ⟨g, 0, none⟩) n1 gc))
        (first
          | with_reducible exact s14.out
          | with_reducible exact s13.out
          | with_reducible exact s12.out
          | with_reducible exact s11.out
          | with_reducible exact s10.out
          | with_reducible exact s9.out
          | with_reducible exact s8.out
          | with_reducible exact s7.out
          | with_reducible exact s6.out
          | exact s5.out)
        (first
          | (go_at_call 20
             ((with_reducible refine (RR.out _ ?_).mono ?_); first | exact (B5.out.drew).wa | skip)
             rintro e V6 ⟨ra, rm, rd, re, rfl, hQ, q6⟩
             have B6 := Lib.hid (B5.out.below (⟨q6.os, q6.tape, q6.output, q6.size, q6.block⟩ : Below wr.heap.size wr V6))
             have hQ := Lib.hid hQ
             have s6 : Hid (V6.cell? ⟨w.heap.size, 0, none⟩ = some (.int .u64 (s1 : Int)) ∧ V6.cell? ⟨w.heap.size, 1, none⟩ = some (.slice p1 n1 c1) ∧ V6.cell? ⟨w.heap.size + 1, 0, none⟩ = some (.int .u64 (s2 : Int)) ∧ V6.cell? ⟨w.heap.size + 1, 1, none⟩ = some (.slice p2 n2 c2) ∧ V6.cell? ⟨N2, 0, none⟩ = some (.int .u64 (s1 : Int)) ∧ V6.cell? ⟨N2, 1, none⟩ = some (.slice (some ⟨g, 0, none⟩) n1 gc)) := Lib.hid B6.out.cells
             have q6 := Lib.hid q6)
          | (go_at_call 19
             ((with_reducible refine (SR.out _ _ _ _ _ _ _ _ _ B6.out.rows hQ.out).mono ?_); rintro e V7 ⟨rfl, q7⟩)
             have B7 := Lib.hid (B6.out.below (⟨q7.os, q7.tape, q7.output, q7.size, q7.block⟩ : Below V6.heap.size V6 V7))
             have s7 : Hid (V7.cell? ⟨w.heap.size, 0, none⟩ = some (.int .u64 (s1 : Int)) ∧ V7.cell? ⟨w.heap.size, 1, none⟩ = some (.slice p1 n1 c1) ∧ V7.cell? ⟨w.heap.size + 1, 0, none⟩ = some (.int .u64 (s2 : Int)) ∧ V7.cell? ⟨w.heap.size + 1, 1, none⟩ = some (.slice p2 n2 c2) ∧ V7.cell? ⟨N2, 0, none⟩ = some (.int .u64 (s1 : Int)) ∧ V7.cell? ⟨N2, 1, none⟩ = some (.slice (some ⟨g, 0, none⟩) n1 gc)) := Lib.hid B7.out.cells
             have q7 := Lib.hid q7)
          | (go_at_call 21
             ((with_reducible refine (NX.out _ _ _ _ _ _ B7.out.part).mono ?_); rintro e V8 ⟨rfl, q8⟩)
             have B8 := Lib.hid (B7.out.below (⟨q8.os, q8.tape, q8.output, q8.size, q8.block⟩ : Below V7.heap.size V7 V8))
             have s8 : Hid (V8.cell? ⟨w.heap.size, 0, none⟩ = some (.int .u64 (s1 : Int)) ∧ V8.cell? ⟨w.heap.size, 1, none⟩ = some (.slice p1 n1 c1) ∧ V8.cell? ⟨w.heap.size + 1, 0, none⟩ = some (.int .u64 (s2 : Int)) ∧ V8.cell? ⟨w.heap.size + 1, 1, none⟩ = some (.slice p2 n2 c2) ∧ V8.cell? ⟨N2, 0, none⟩ = some (.int .u64 (s1 : Int)) ∧ V8.cell? ⟨N2, 1, none⟩ = some (.slice (some ⟨g, 0, none⟩) n1 gc)) := Lib.hid B8.out.cells
             have q8 := Lib.hid q8)
          | (go_at_call 22
             ((with_reducible refine (NR.out _ B8.out.wa).mono ?_); rintro e V9 ⟨rfl, q9⟩)
             have B9 := Lib.hid (B8.out.below (⟨q9.os, q9.tape, q9.output, q9.size, q9.block⟩ : Below V8.heap.size V8 V9))
             have s9 : Hid (V9.cell? ⟨w.heap.size, 0, none⟩ = some (.int .u64 (s1 : Int)) ∧ V9.cell? ⟨w.heap.size, 1, none⟩ = some (.slice p1 n1 c1) ∧ V9.cell? ⟨w.heap.size + 1, 0, none⟩ = some (.int .u64 (s2 : Int)) ∧ V9.cell? ⟨w.heap.size + 1, 1, none⟩ = some (.slice p2 n2 c2) ∧ V9.cell? ⟨N2, 0, none⟩ = some (.int .u64 (s1 : Int)) ∧ V9.cell? ⟨N2, 1, none⟩ = some (.slice (some ⟨g, 0, none⟩) n1 gc)) := Lib.hid B9.out.cells
             have q9 := Lib.hid q9)
          | (go_at_call 23
             ((with_reducible refine (SO.out _ _ _ _ _ _ B9.out.part B9.out.wb).mono ?_); rintro e V10 ⟨rfl, q10⟩)
             have B10 := Lib.hid (B9.out.below (⟨q10.os, q10.tape, q10.output, q10.size, q10.block⟩ : Below V9.heap.size V9 V10))
             have s10 : Hid (V10.cell? ⟨w.heap.size, 0, none⟩ = some (.int .u64 (s1 : Int)) ∧ V10.cell? ⟨w.heap.size, 1, none⟩ = some (.slice p1 n1 c1) ∧ V10.cell? ⟨w.heap.size + 1, 0, none⟩ = some (.int .u64 (s2 : Int)) ∧ V10.cell? ⟨w.heap.size + 1, 1, none⟩ = some (.slice p2 n2 c2) ∧ V10.cell? ⟨N2, 0, none⟩ = some (.int .u64 (s1 : Int)) ∧ V10.cell? ⟨N2, 1, none⟩ = some (.slice (some ⟨g, 0, none⟩) n1 gc)) := Lib.hid B10.out.cells
             have q10 := Lib.hid q10)
          | (go_at_call 17
             ((with_reducible refine (SRF.out _ B10.out.wa B10.out.wb).mono ?_); rintro e V11 ⟨rfl, q11⟩)
             have B11 := Lib.hid (B10.out.below (⟨q11.os, q11.tape, q11.output, q11.size, q11.block⟩ : Below V10.heap.size V10 V11))
             have s11 : Hid (V11.cell? ⟨w.heap.size, 0, none⟩ = some (.int .u64 (s1 : Int)) ∧ V11.cell? ⟨w.heap.size, 1, none⟩ = some (.slice p1 n1 c1) ∧ V11.cell? ⟨w.heap.size + 1, 0, none⟩ = some (.int .u64 (s2 : Int)) ∧ V11.cell? ⟨w.heap.size + 1, 1, none⟩ = some (.slice p2 n2 c2) ∧ V11.cell? ⟨N2, 0, none⟩ = some (.int .u64 (s1 : Int)) ∧ V11.cell? ⟨N2, 1, none⟩ = some (.slice (some ⟨g, 0, none⟩) n1 gc)) := Lib.hid B11.out.cells
             have q11 := Lib.hid q11)
          | (go_at_call 23
             ((with_reducible refine (SA.out _ _ _ _ _ _ B11.out.part B11.out.wa).mono ?_); rintro e V12 ⟨rfl, q12⟩)
             have B12 := Lib.hid (B11.out.below (⟨q12.os, q12.tape, q12.output, q12.size, q12.block⟩ : Below V11.heap.size V11 V12))
             have s12 : Hid (V12.cell? ⟨w.heap.size, 0, none⟩ = some (.int .u64 (s1 : Int)) ∧ V12.cell? ⟨w.heap.size, 1, none⟩ = some (.slice p1 n1 c1) ∧ V12.cell? ⟨w.heap.size + 1, 0, none⟩ = some (.int .u64 (s2 : Int)) ∧ V12.cell? ⟨w.heap.size + 1, 1, none⟩ = some (.slice p2 n2 c2) ∧ V12.cell? ⟨N2, 0, none⟩ = some (.int .u64 (s1 : Int)) ∧ V12.cell? ⟨N2, 1, none⟩ = some (.slice (some ⟨g, 0, none⟩) n1 gc)) := Lib.hid B12.out.cells
             have q12 := Lib.hid q12)
          | (go_at_call 14
             ((with_reducible refine (KA.out _ B12.out.own B12.out.wa).mono ?_); rintro e V13 ⟨rfl, q13⟩)
             have B13 := Lib.hid (B12.out.below (⟨q13.os, q13.tape, q13.output, q13.size, q13.block⟩ : Below V12.heap.size V12 V13))
             have s13 : Hid (V13.cell? ⟨w.heap.size, 0, none⟩ = some (.int .u64 (s1 : Int)) ∧ V13.cell? ⟨w.heap.size, 1, none⟩ = some (.slice p1 n1 c1) ∧ V13.cell? ⟨w.heap.size + 1, 0, none⟩ = some (.int .u64 (s2 : Int)) ∧ V13.cell? ⟨w.heap.size + 1, 1, none⟩ = some (.slice p2 n2 c2) ∧ V13.cell? ⟨N2, 0, none⟩ = some (.int .u64 (s1 : Int)) ∧ V13.cell? ⟨N2, 1, none⟩ = some (.slice (some ⟨g, 0, none⟩) n1 gc)) := Lib.hid B13.out.cells
             have q13 := Lib.hid q13)
          | (go_at_call 8
             ((with_reducible refine (AW.out _).mono ?_); rintro e V14 ⟨rfl, q14⟩)
             have B14 := Lib.hid (B13.out.below (⟨q14.os, q14.tape, q14.output, q14.size, q14.block⟩ : Below V13.heap.size V13 V14))
             have s14 : Hid (V14.cell? ⟨w.heap.size, 0, none⟩ = some (.int .u64 (s1 : Int)) ∧ V14.cell? ⟨w.heap.size, 1, none⟩ = some (.slice p1 n1 c1) ∧ V14.cell? ⟨w.heap.size + 1, 0, none⟩ = some (.int .u64 (s2 : Int)) ∧ V14.cell? ⟨w.heap.size + 1, 1, none⟩ = some (.slice p2 n2 c2) ∧ V14.cell? ⟨N2, 0, none⟩ = some (.int .u64 (s1 : Int)) ∧ V14.cell? ⟨N2, 1, none⟩ = some (.slice (some ⟨g, 0, none⟩) n1 gc)) := Lib.hid B14.out.cells
             have q14 := Lib.hid q14))
      all_goals (
        go_wp2_with fail
        go_returns
        exact ⟨rfl, ⟨B14.out.bel.os, B14.out.bel.tape, B14.out.bel.output, B14.out.bel.size, B14.out.bel.block⟩⟩)
theorem rows_walk (s1 : Nat) (p1 : Option Addr) (n1 c1 b1 o1 : Nat) (l1 : List Wr) (_m1 : s1 < 2 ^ 64) (s2 : Nat) (p2 : Option Addr) (n2 c2 b2 o2 : Nat) (l2 : List Wr) (_m2 : s2 < 2 ^ 64) (w : World) (hA : Ws p1 n1 c1 b1 o1 l1 w) (hB : Ws p2 n2 c2 b2 o2 l2 w) :
    Calls Try.prog 5 #[batchV s1 p1 n1 c1, batchV s2 p2 n2 c2] w fun e w' => e = .returned (.bool true) ∧ Below w.heap.size w w' := by
  by_cases h : n1 ≤ 300 ∧ n2 ≤ 300
  · exact rows_main s1 p1 n1 c1 b1 o1 l1 s2 p2 n2 c2 b2 o2 l2 w hA hB h.1 h.2
  · exact rows_big s1 p1 n1 c1 b1 o1 l1 s2 p2 n2 c2 b2 o2 l2 w hA hB h
--LAW freshetlaw06.BatchRows rows_walk batch:la batch:lb
--BEGIN
namespace BatchRowsProof
open Go.ChangeShapes Go.WideShapes Go.ChangeAt Go.RowKit
open Go.ChangeMaps (open_string shut_string)
theorem own : ownKnob Try.prog.godebug = none := by kernel_rfl
set_option maxRecDepth 100000 in
theorem lifted (os : Os) (started : os.Started) (H : Type) (enc : TypeId × Value → H) :
    ReturnsInHanded {} Try.checked os 5 .any (Rows.batchRowsSpec.pre6 enc Try.prog Try.f5 Rows.batchRowsRow.domain false) (Rows.batchRowsSpec.post enc Try.prog Try.f5 false true false false) := by
  refine returnsInHanded_of_change_sized (C := Try.checked) own started (by kernel_rfl) Try.func5
    (ChangeSpec.witness6 (enc := enc) (C := Try.checked) false ⟨#[], #[.agg #[.int .u64 0, .slice none 0 0], .agg #[.int .u64 0, .slice none 0 0]], []⟩ 8 (by kernel_rfl) (by kernel_rfl) (by kernel_rfl) (by kernel_rfl)) ?_
  intro W base args ds gs before hval0 hW _ hsz _
  have hval : ∀ (j : Nat) t v, Try.f5.params[j]? = some t → args[j]? = some v → Value.okWide Try.prog W .any base t v := hval0
  have hW' := hW
  obtain ⟨p, q, hA0, hV, rfl, hfz, hnd⟩ := hW
  have hA : DataW.TrodAll enc Try.prog W 0 (fun _ => true) true Try.f5.params.toList args.toList ds p := hA0
  rw [Try.params5] at hA hval hsz
  obtain ⟨v0, vs0, d0, ds0, p0, q0, hargs, rfl, rfl, h0, r0⟩ := trodAll_cons hA
  obtain ⟨v1, vs1, d1, ds1, p1, q1, rfl, rfl, rfl, h1, r1⟩ := trodAll_cons r0
  obtain ⟨rfl, rfl, rfl⟩ := trodAll_nil r1
  obtain rfl : args = #[v0, v1] := by cases args; simp_all
  obtain ⟨rfl, rfl⟩ := trodVars_none hV
  have k0 := h0
  obtain ⟨sq0, a0, n0, c0, b0, o0, la, rfl, m0, ia0⟩ := open_batch (hval 0 25 v0 rfl rfl) h0 hsz (j := 0) rfl rfl
  have lt0 : ∀ x ∈ p0, x.block < W.heap.size := fun x hx => hW'.lt x (by simp only [List.mem_append]; simp [hx])
  have k1 := h1
  obtain ⟨sq1, a1, n1, c1, b1, o1, lb, rfl, m1, ia1⟩ := open_batch (hval 1 25 v1 rfl rfl) h1 hsz (j := 1) rfl rfl
  have lt1 : ∀ x ∈ p1, x.block < W.heap.size := fun x hx => hW'.lt x (by simp only [List.mem_append]; simp [hx])
  clear hA0 hval0
  simp only [List.append_nil] at hW'
  refine (rows_walk sq0 a0 n0 c0 b0 o0 la m0 sq1 a1 n1 c1 b1 o1 lb m1 W ia0 ia1).mono fun e W' ⟨he, hg⟩ => ?_
  subst he
  exact ⟨_, rfl, _, _, _, [], _, [], hW', (trodAll_cons_mk (shut_bool Try.underlying4 _) trodAll_mk0), (trodAll_cons_mk (Below.trod laid_out (by kernel_rfl) (of_decide_eq_true (by kernel_rfl)) k0 hg lt0) (trodAll_cons_mk (Below.trod laid_out (by kernel_rfl) (of_decide_eq_true (by kernel_rfl)) k1 hg lt1) trodAll_mk0)), rfl, hg.frame _, fun h => by cases h⟩
theorem holds : Rows.BatchRowsSaid :=
  OpenClaim.holds_of_wide 5 Try.f5 rfl rfl rfl rfl rfl rfl rfl ⟨rfl, rfl, rfl, rfl, rfl⟩ rfl rfl rfl rfl rfl (by kernel_rfl) Try.func5 (by kernel_rfl)
    (of_decide_eq_true (by kernel_rfl)) (by unfold Func.isWrapper; first | (rw [if_pos (by decide +kernel)]; kernel_rfl) | (rw [if_neg (by decide +kernel)]; exact ⟨rfl, rfl⟩))
    (fun os started H enc _ => lifted os started H enc)
end BatchRowsProof
--END
end Go.Proofs.Ytaanclnppfpocaa
