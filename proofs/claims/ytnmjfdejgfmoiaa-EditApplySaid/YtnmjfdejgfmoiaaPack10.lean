/-
  The contract of the document's Copy: each level in memory of its own, a mark behind it. Condition: at most 80 tables a level.
-/
import Derived.Test.YtnmjfdejgfmoiaaPack9
import Derived.Deep.Onto
import Derived.ChangeKeys
import Derived.Test.YtnmjfdejgfmoiaaShelfSort
namespace Go.Proofs.Ytnmjfdejgfmoiaa
set_option maxRecDepth 100000
open Go Go.RowKit
theorem sl_src {α : Type} {k : Nat} {cells : α → List Value} (hcl : ∀ x, (cells x).length = k) (hk : 0 < k) {a : Option Addr} {n c b o : Nat} {l : List α} {w : World} (s : SlOf k cells a n c b o l w) : ∀ p, a = some p → ∀ j u, (l.flatMap cells)[j]? = some u → w.cell? (p.add j) = some u := by
  intro p hp j u hu
  have hl : (l.flatMap cells).length = l.length * k := rowG_len hcl l
  have hj : j < l.length * k := by rw [← hl]; exact (List.getElem?_eq_some_iff.1 hu).1
  have hi : j / k < l.length := Nat.div_lt_of_lt_mul (by rw [Nat.mul_comm]; exact hj)
  have hm : j % k < k := Nat.mod_lt _ hk
  have hx : l[j / k]? = some l[j / k] := List.getElem?_eq_getElem hi
  have e : j / k * k + j % k = j := by rw [Nat.mul_comm]; exact Nat.div_add_mod j k
  have h1 := rowG_at hcl l (j / k) (j % k) hx hm
  rw [e, hu] at h1
  have h2 := s.at' (j / k) _ hx (j % k) u h1.symm
  obtain ⟨ha, _⟩ := s.addr (by rw [← s.len]; exact Nat.lt_of_le_of_lt (Nat.zero_le _) hi)
  rw [ha] at hp
  cases hp
  have e1 : (⟨b, o, none⟩ : Addr).add j = ⟨b, o + j / k * k + j % k, none⟩ := by
    rw [Nat.add_assoc, e]
    unfold Addr.add
    split
    · rename_i h0
      rw [h0, Nat.add_zero]
    · rfl
  rw [e1]; exact h2
theorem infoM : (Try.prog.info? 40).map (fun i => (i.zero, i.size, i.bytes)) = some (some (.agg #[.int .u64 0, .int .i64 0, .int .i64 0, .string .empty, .string .empty, .int .u64 0, .int .u64 0]), 7, 72) := by kernel_rfl
theorem one_m (l : List Mt) : ∀ u ∈ l.flatMap cellsM, u.oneCell' = true := by
  intro u hu
  obtain ⟨x, _, hu⟩ := List.mem_flatMap.1 hu
  simp only [cellsM, List.mem_cons, List.not_mem_nil, or_false] at hu
  rcases hu with rfl | rfl | rfl | rfl | rfl | rfl | rfl <;> rfl
/-- The mark behind a copy. -/
def markM : Mt := ⟨0, 0, 77, ⟨#[]⟩, ⟨#[]⟩, 0, 0⟩
/-- A level's copy, with its mark. -/
structure Cp (h : Hd) (l : List Mt) (w : World) : Prop where
  a : h.a = some ⟨h.b, 0, none⟩
  o : h.o = 0
  n : h.n = l.length
  row : w.ownsRow 0 40 7 (.slice (some ⟨h.b, 0, none⟩) (h.n + 1) h.c) (h.n + 1) ((l ++ [markM]).flatMap cellsM)
theorem Cp.keep {h : Hd} {l : List Mt} {w w' : World} (k : Cp h l w) (hk : w'.heap[h.b]? = w.heap[h.b]?) : Cp h l w' := by
  refine ⟨k.a, k.o, k.n, k.row.1, ?_⟩
  rcases k.row.2 with h2 | ⟨g, cap, cur, h1, h2, h3, h4⟩
  · exact .inl h2
  · refine .inr ⟨g, cap, cur, h1, h2, ?_, h4⟩
    injection h1 with h1 _ _
    injection h1 with h1
    injection h1 with h1 _ _
    rw [← h1, hk, h1]; exact h3
theorem Cp.lt {h : Hd} {l : List Mt} {w : World} (k : Cp h l w) : h.b < w.heap.size := (row_of k.row h.b rfl).2.1
theorem Cp.below {h : Hd} {l : List Mt} {w w' : World} (k : Cp h l w) (hb : Below w.heap.size w w') : Cp h l w' := k.keep (hb.block _ k.lt)
theorem Cp.ms {h : Hd} {l : List Mt} {w : World} (k : Cp h l w) : Ms h l w := by
  obtain ⟨a, c, b, h1, h2, h3, h4⟩ := sl_of_rowG (cells := cellsM) (fun _ => rfl) (by rw [List.length_append, k.n]; rfl) k.row
  injection h1 with e1 e2 e3
  refine ⟨⟨k.n.symm, ?_, ?_, fun h0 => ⟨by rw [k.a, k.o], k.lt⟩, fun j x hx m u hu => ?_⟩, fun h => by rw [k.a] at h; cases h⟩
  · have := h2.cap; omega
  · have := h2.most; omega
  · have hj : j < l.length := (List.getElem?_eq_some_iff.1 hx).1
    have h5 := h2.at' j x (by rw [List.getElem?_append_left hj]; exact hx) m u hu
    have h6 := (h2.addr (by omega)).1
    rw [← e1] at h6
    injection h6 with h6
    injection h6 with h6 _ _
    rw [k.o, h6]; exact h5
/-- The mark's cell, and that there is room for it. -/
theorem Cp.mark {h : Hd} {l : List Mt} {w : World} (k : Cp h l w) : h.n + 1 ≤ h.c ∧ w.cell? ⟨h.b, h.n * 7 + 2, none⟩ = some (.int .i64 77) := by
  obtain ⟨a, c, b, h1, h2, h3, h4⟩ := sl_of_rowG (cells := cellsM) (fun _ => rfl) (by rw [List.length_append, k.n]; rfl) k.row
  injection h1 with e1 e2 e3
  have h6 := (h2.addr (by omega)).1
  rw [← e1] at h6
  injection h6 with h6
  injection h6 with h6 _ _
  refine ⟨by have := h2.cap; omega, ?_⟩
  have h5 := h2.at' h.n markM (by rw [k.n, List.getElem?_append_right (Nat.le_refl _)]; simp) 2 (.int .i64 77) rfl
  rw [h6]
  rw [Nat.zero_add] at h5
  exact h5
/-- Copy under way: the levels below j lie in memory of their own. -/
structure CyI (v : Vr) (H : Nat → Hd) (j : Nat) (K : Nat → Hd) (w wr : World) : Prop where
  ver : VerB w.heap.size v (fun i => if i < j then K i else H i) wr
  res : wr.heap[w.heap.size + 1]? = some (.cells #[.int .u64 0, .int .u64 0, .int .u64 0, .slice none 0 0, .slice none 0 0, .slice none 0 0, .slice none 0 0] 26 (0, 0))
  cp : ∀ i, i < j → Cp (K i) (v.lv i) wr ∧ w.heap.size + 2 ≤ (K i).b
  f : Below w.heap.size w wr
  big : w.heap.size + 2 ≤ wr.heap.size
theorem CyI.below {v : Vr} {H : Nat → Hd} {j : Nat} {K : Nat → Hd} {w wr u : World} (h : CyI v H j K w wr) (hb : Below wr.heap.size wr u) : CyI v H j K w u :=
  ⟨h.ver.below hb, (hb.block _ (by have := h.big; omega)).trans h.res, fun i hi => ⟨(h.cp i hi).1.below hb, (h.cp i hi).2⟩, below_of h.f hb, Nat.le_trans h.big hb.size⟩
theorem CyI.new (v : Vr) (H K : Nat → Hd) (w : World) : CyI v H 0 K w ((w.alloc (verO v H)).alloc (.cells #[.int .u64 0, .int .u64 0, .int .u64 0, .slice none 0 0, .slice none 0 0, .slice none 0 0, .slice none 0 0] 26 (0, 0))) := by
  refine ⟨(VerB.new v H w).below (below_alloc _ _), ?_, fun i hi => absurd hi (Nat.not_lt_zero i), (below_alloc w _).alloc (by simp) _, by rw [World.size_alloc, World.size_alloc]; exact Nat.le_refl _⟩
  have := heap_alloc_new (w.alloc (verO v H)) (.cells #[.int .u64 0, .int .u64 0, .int .u64 0, .slice none 0 0, .slice none 0 0, .slice none 0 0, .slice none 0 0] 26 (0, 0))
  rwa [World.size_alloc] at this
theorem ver_set {v : Vr} {G : Nat → Hd} {p : Nat} {w : World} (h : VerB p v G w) {j : Nat} (hj : j < 4) (k : Hd) : VerB p v (fun i => if i = j then k else G i) (w.setCell ⟨p, 3 + j, none⟩ (hdV k)) := by
  have := heap_setCell_same _ _ (3 + j) _ _ (hdV k) h
  refine this.trans ?_
  rcases (show j = 0 ∨ j = 1 ∨ j = 2 ∨ j = 3 by omega) with rfl | rfl | rfl | rfl
  all_goals rfl
/-- One level more. -/
theorem CyI.add {v : Vr} {H : Nat → Hd} {j : Nat} {K : Nat → Hd} {w wr : World} (h : CyI v H j K w wr) (hj : j < 4) {k : Hd} (hk : Cp k (v.lv j) wr) (hb : w.heap.size + 2 ≤ k.b) : CyI v H (j + 1) (fun i => if i = j then k else K i) w (wr.setCell ⟨w.heap.size, 3 + j, none⟩ (.slice k.a k.n k.c)) := by
  have hset := ver_set h.ver hj k
  have hle : Below w.heap.size w (wr.setCell ⟨w.heap.size, 3 + j, none⟩ (.slice k.a k.n k.c)) := h.f.setCell (p := ⟨w.heap.size, 3 + j, none⟩) (Nat.le_refl _) _
  refine ⟨?_, (heap_setCell_other _ _ _ _ (by show w.heap.size + 1 ≠ w.heap.size; omega)).trans h.res, fun i hi => ?_, hle, by rw [World.size_setCell]; exact h.big⟩
  · have e : (fun i => if i < j + 1 then (if i = j then k else K i) else H i) = (fun i => if i = j then k else if i < j then K i else H i) := by
      funext i
      by_cases h1 : i = j
      · subst h1; simp
      · by_cases h2 : i < j
        · rw [if_pos (by omega), if_neg h1, if_neg h1, if_pos h2]
        · rw [if_neg (by omega), if_neg h1, if_neg h2]
    rw [e]; exact hset
  · by_cases h1 : i = j
    · subst h1
      rw [if_pos rfl]
      exact ⟨hk.keep (heap_setCell_other _ _ _ _ (by show k.b ≠ w.heap.size; omega)), hb⟩
    · rw [if_neg h1]
      obtain ⟨q1, q2⟩ := h.cp i (by omega)
      exact ⟨q1.keep (heap_setCell_other _ _ _ _ (by show (K i).b ≠ w.heap.size; omega)), q2⟩
theorem wr_allC (m : Nat) (h : m ≤ 1099511627776) : wrap64 ((m : Int) + 1 - 1) = (m : Int) ∧ (m : Int) + 1 - 1 = (m : Int) ∧ wrap64 (m : Int) = (m : Int) ∧ IntKind.i64.wrap (m : Int) = (m : Int) ∧ IntKind.i64.wrap ((m : Int) + 1 - 1) = (m : Int) := by
  have e : (m : Int) + 1 - 1 = (m : Int) := by omega
  have e2 : wrap64 (m : Int) = (m : Int) := by unfold wrap64; omega
  have e3 : IntKind.i64.wrap (m : Int) = (m : Int) := by simp [IntKind.wrap_i64]; omega
  exact ⟨by rw [e, e2], e, e2, e3, by rw [e, e3]⟩
theorem bound_c {n : Nat} (h : n ≤ 80) : n ≤ 1048576 ∧ n + 1 ≤ maxLen ∧ (n + 1) * 72 ≤ 140737488355328 ∧ n ≤ maxLen := by unfold maxLen; omega
set_option maxRecDepth 100000 in
set_option maxHeartbeats 16000000 in
theorem copy_any {v : Vr} {H : Nat → Hd} {w : World} (hM : VrAt v H w) (hn80 : ∀ i, i < 4 → (H i).n ≤ 80) : Calls Try.prog 7 #[verV v H] w fun r w' => (∃ K : Nat → Hd, r = .returned (verV v K) ∧ ∀ i, i < 4 → Cp (K i) (v.lv i) w') ∧ Below w.heap.size w w' := by
  have I0 := Lib.hid (CyI.new v H H w)
  have VM : Hid (∀ u, Below w.heap.size w u → ∀ i, i < 4 → Ms (H i) (v.lv i) u) := Lib.hid (fun u hu i hi => (hM i hi).below hu)
  have hn80 := Lib.hid hn80
  clear hM
  obtain ⟨ti, hi, hy0, hy1, hy2⟩ := info_parts infoM
  go_enter Try.func7, Try.ntmps7
  go_wp2_with fail
  go_loopw [3] (fun i wr => ∃ j : Nat, j ≤ 4 ∧ i = .int .i64 (j : Int) ∧ ∃ K, Hid (CyI v H j K w wr)) (fun i _ => 4 - (intOf i).toNat)
  case atStart => exact ⟨0, Nat.zero_le _, rfl, _, I0⟩
  case round =>
    clear I0
    obtain ⟨j, hjn, rfl, K, hI⟩ := hrel
    by_cases hlt : j < 4
    · have i0 : (j : Int) < 4 := by omega
      have g0 : ¬ (j : Int) < 0 := by omega
      have M0 := Lib.hid (VM.out _ hI.out.f j hlt)
      have hn := Lib.hid (hn80.out j hlt)
      have L0 := hI.out.ver.lev hlt
      rw [if_neg (Nat.lt_irrefl j)] at L0
      have AD := Lib.hid (fun (u : World) (hu : CyI v H j K w u) (k : Hd) (hk : Cp k (v.lv j) u) (hb : w.heap.size + 2 ≤ k.b) => hu.add hlt hk hb)
      obtain ⟨⟨ha, hnn, hc, hb, ho⟩, hh⟩ := named (H j)
      rw [← hh.out] at M0 hn L0
      simp only at M0 hn L0
      replace hh := Lib.hid trivial
      obtain ⟨l, hl⟩ := named (v.lv j)
      rw [← hl.out] at M0 AD
      replace hl := Lib.hid trivial
      have hll := Lib.hid M0.out.len
      have hm1 := M0.out.sl.cap
      have hm2 := M0.out.sl.most
      have hbd := Lib.hid (bound_c hn.out)
      have OW := Lib.hid (World.ownsRow_made (base := wr.heap.size) (e := 40) (size := 7) wr #[] 0 (Nat.le_refl _) (by unfold maxLen; omega) (by simp))
      have hsr := Lib.hid (sl_src (cells := cellsM) (fun _ => rfl) (by decide) (M0.out.below (below_alloc wr (.cells #[] 40))).sl)
      have hfl : Hid ((l.flatMap cellsM).length = hnn * 7) := Lib.hid (by rw [rowG_len (cells := cellsM) (k := 7) (fun _ => rfl), hll.out])
      obtain ⟨q1, q2, q3, q4, q5⟩ := wr_allC hnn (by have := hn.out; omega)
      have q6 : ¬ (hnn : Int) < 0 := by omega
      have L0a : (wr.alloc (.cells #[] 40)).cell? ⟨w.heap.size, 3 + j, none⟩ = some (.slice ha hnn hc) := ((below_alloc wr _).cell (p := ⟨w.heap.size, 3 + j, none⟩) (by have := hI.out.big; show w.heap.size < _; omega)).trans L0
      have hB1 : wr.heap.size ≤ (wr.alloc (.cells #[] 40)).heap.size := by rw [World.size_alloc]; omega
      go_upto_region 6 with (first
        | (at_builtin; refine wpList_append_src rfl _ _ 23 rfl wr.heap.size 40 7 72 (.agg #[.int .u64 0, .int .i64 0, .int .i64 0, .string .empty, .string .empty, .int .u64 0, .int .u64 0]) Try.underlying23 infoM rfl (by decide) (by decide) (.slice (some ⟨wr.heap.size, 0, none⟩) 0 0) 0 [] ha hnn hc (l.flatMap cellsM) OW.out M0.out.none' hfl.out hsr.out (by rfl) (by rfl) (one_m l) (by decide) hbd.out.1 hB1 ?_; intro v1 w1 hown1 hgrow1 hsh1; rw [Nat.zero_add] at hown1 hsh1; rw [List.nil_append] at hown1; have B1 : Hid (Below wr.heap.size wr w1) := Lib.hid (((below_alloc wr _).grown hgrow1 hB1 (fun r hr => by cases hr; exact Nat.le_refl _))); have O1 := Lib.hid hown1; obtain ⟨va, vc, rfl⟩ := hsh1; have Z1 := Lib.hid B1.out.size; clear hown1 hgrow1)
        | (at_builtin; refine wpList_append_lies _ rfl _ _ 23 rfl wr.heap.size 40 ti (.agg #[.int .u64 0, .int .i64 0, .int .i64 0, .string .empty, .string .empty, .int .u64 0, .int .u64 0]) 7 72 Try.underlying23 hi hy0 hy1 hy2 rfl (by decide) (.slice va hnn vc) hnn (l.flatMap cellsM) (by rfl) (O1.out.alloc _) ⟨w1.heap.size, 0, none⟩ 1 1 (cellsM markM) (by rfl) rfl (World.news_of_block (heap_alloc_new _ _)) (by have := one_m [markM]; simpa using this) (by decide) hbd.out.2.1 hbd.out.2.2.1 (by rw [World.size_alloc]; have := Z1.out; omega) _ rfl ?_; intro g9 cap9 w2 hown2 hgrow2 hat2 _; have B2 : Hid (Below wr.heap.size wr w2) := Lib.hid (B1.out.trans (((Below.refl wr.heap.size w1).alloc Z1.out _).grown hgrow2 (by rw [World.size_alloc]; have := Z1.out; omega) (fun r hr => (row_of O1.out r hr).1))); have O2 := Lib.hid hown2; have G2 : Hid (wr.heap.size ≤ g9 ∧ hnn + 1 ≤ cap9 ∧ cap9 ≤ 9223372036854775807) := Lib.hid (by
            rcases hown2.2 with ⟨h, _⟩ | ⟨g, cap, cur, h1, h2, h3, h4, h5, _⟩
            · cases h
            · cases h1
              exact ⟨h2, h4, by unfold maxLen at h5; omega⟩); clear hown2 hgrow2 hat2))
      have C2 := Lib.hid (hI.out.below B2.out)
      have L2 := (B2.out.cell (p := ⟨w.heap.size, 3 + j, none⟩) (by have := hI.out.big; show w.heap.size < wr.heap.size; omega)).trans L0
      have F2 := C2.out.ver.frozen (3 + j)
      obtain ⟨p1, p2, p3⟩ := G2.out
      have p4 : (hnn : Int) ≤ (cap9 : Int) := by omega
      have CK : Hid (CyI v H (j + 1) (fun i => if i = j then ⟨some ⟨g9, 0, none⟩, hnn, cap9, g9, 0⟩ else K i) w (w2.setCell ⟨w.heap.size, 3 + j, none⟩ (.slice (some ⟨g9, 0, none⟩) hnn cap9))) := Lib.hid (AD.out w2 C2.out ⟨some ⟨g9, 0, none⟩, hnn, cap9, g9, 0⟩ ⟨rfl, rfl, hll.out.symm, by
        have h := O2.out.mono (Nat.zero_le wr.heap.size)
        rw [List.flatMap_append]
        simpa using h⟩ (by have := hI.out.big; show w.heap.size + 2 ≤ g9; omega))
      replace L0 := Lib.hid trivial
      replace L0a := Lib.hid trivial
      replace G2 := Lib.hid trivial
      clear hm1 hm2 p1 p2 p3
      go_wp2_with fail
      go_roundw
      case rel => exact ⟨j + 1, by omega, by go_num, _, CK⟩
      case measure => simp [intOf]; omega
    · obtain rfl : j = 4 := by omega
      have i0 : ¬ ((4 : Nat) : Int) < 4 := by omega
      obtain ⟨x0, x1, x2, x3, x4, x5, x6⟩ := hI.out.ver.cells
      simp only [show (0 : Nat) < 4 by decide, show (1 : Nat) < 4 by decide, show (2 : Nat) < 4 by decide, show (3 : Nat) < 4 by decide, if_true] at x3 x4 x5 x6
      obtain ⟨z0, z1, z2, z3, z4, z5, z6⟩ := (show VerB (w.heap.size + 1) zeroV noHd wr from hI.out.res).cells
      have zf := (show VerB (w.heap.size + 1) zeroV noHd wr from hI.out.res).frozen
      have YC := Lib.hid ((show VerB (w.heap.size + 1) zeroV noHd wr from hI.out.res).put v K).cells
      go_wp2_with fail
      obtain ⟨g0, g1, g2, g3, g4, g5, g6⟩ := YC.out
      refine bodyPost_ret (v := verV v K) (by simp [results, Try.results7, go_sem, g0, g1, g2, g3, g4, g5, g6]) rfl ⟨⟨K, rfl, fun i hi => ?_⟩, below_verPut hI.out.f (Nat.le_succ _) v K⟩
      obtain ⟨q1, q2⟩ := hI.out.cp i hi
      exact q1.keep (heap_verPut (by omega))
end Go.Proofs.Ytnmjfdejgfmoiaa
/-
  Levels that a call owns: four rows of tables, apart from one another; and a set of tables that go. No condition.
-/
namespace Go.Proofs.Ytnmjfdejgfmoiaa
set_option maxRecDepth 100000
open Go Go.RowKit
/-- Row i of the levels, n tables long. -/
structure OwnLv (B : Nat) (L : Nat → List Mt) (K : Nat → Hd) (w : World) : Prop where
  row : ∀ i, i < 4 → w.ownsRow B 40 7 (.slice (K i).a (K i).n (K i).c) (K i).n ((L i).flatMap cellsM)
  n : ∀ i, i < 4 → (L i).length = (K i).n
  shp : ∀ i, i < 4 → ((K i).a = none ∧ (K i).n = 0 ∧ (K i).c = 0) ∨ ((K i).a = some ⟨(K i).b, 0, none⟩ ∧ (K i).o = 0)
  apart : ∀ i j, i < 4 → j < 4 → i ≠ j → (K i).a = none ∨ (K j).a = none ∨ (K i).b ≠ (K j).b
theorem own_of {h : Hd} (hs : (h.a = none ∧ h.n = 0 ∧ h.c = 0) ∨ (h.a = some ⟨h.b, 0, none⟩ ∧ h.o = 0)) : (h.a = none ∧ (Value.slice h.a h.n h.c).ownBlock = none) ∨ (h.a ≠ none ∧ (Value.slice h.a h.n h.c).ownBlock = some h.b) := by
  rcases hs with ⟨e, _, _⟩ | ⟨e, _⟩
  · exact .inl ⟨e, by rw [e]; rfl⟩
  · exact .inr ⟨by rw [e]; simp, by rw [e]; rfl⟩
theorem OwnLv.ms {B : Nat} {L : Nat → List Mt} {K : Nat → Hd} {w : World} (h : OwnLv B L K w) : ∀ i, i < 4 → Ms (K i) (L i) w ∧ (0 < (K i).n → B ≤ (K i).b) := by
  intro i hi
  have hr := h.row i hi
  obtain ⟨a, c, b, h1, h2, h3, h4⟩ := sl_of_rowG (cells := cellsM) (fun _ => rfl) (h.n i hi) hr
  injection h1 with e1 e2 e3
  rcases h.shp i hi with ⟨s1, s2, s3⟩ | ⟨s1, s2⟩
  · refine ⟨⟨⟨h.n i hi, by omega, by rw [s3]; omega, fun h0 => by omega, fun j x hx => ?_⟩, fun _ => ⟨s2, s3⟩⟩, fun h0 => by omega⟩
    have : (L i).length = 0 := by rw [h.n i hi, s2]
    have := (List.getElem?_eq_some_iff.1 hx).1
    omega
  · obtain ⟨r1, r2, _⟩ := row_of hr (K i).b (by rw [s1]; rfl)
    refine ⟨⟨⟨h.n i hi, by rw [e3]; exact h2.cap, by rw [e3]; exact h2.most, fun h0 => ⟨by rw [s1, s2], r2⟩, fun j x hx m u hu => ?_⟩, fun h => by rw [s1] at h; cases h⟩, fun _ => r1⟩
    have hj : j < (K i).n := by rw [← h.n i hi]; exact (List.getElem?_eq_some_iff.1 hx).1
    have h6 := (h2.addr (by omega)).1
    rw [← e1, s1] at h6
    injection h6 with h6
    injection h6 with h6 _ _
    have h5 := h2.at' j x hx m u hu
    rw [s2, h6]; exact h5
theorem OwnLv.keep {B : Nat} {L : Nat → List Mt} {K : Nat → Hd} {w w' : World} (h : OwnLv B L K w) (hk : ∀ k, B ≤ k → k < w.heap.size → w'.heap[k]? = w.heap[k]?) : OwnLv B L K w' := by
  refine ⟨fun i hi => ?_, h.n, h.shp, h.apart⟩
  have k := h.row i hi
  refine ⟨k.1, ?_⟩
  rcases k.2 with h2 | ⟨g, cap, cur, h1, h2, h3, h4⟩
  · exact .inl h2
  · exact .inr ⟨g, cap, cur, h1, h2, (hk g h2 (Array.getElem?_eq_some_iff.1 h3).1).trans h3, h4⟩
theorem OwnLv.below {B : Nat} {L : Nat → List Mt} {K : Nat → Hd} {w w' : World} (h : OwnLv B L K w) (hb : Below w.heap.size w w') : OwnLv B L K w' := h.keep (fun k _ hk => hb.block k hk)
theorem OwnLv.but {B b : Nat} {L : Nat → List Mt} {K : Nat → Hd} {w w' : World} (h : OwnLv B L K w) (hb : But b w w') (hB : b < B) : OwnLv B L K w' := h.keep (fun k h1 hk => hb.block k hk (by omega))
theorem OwnLv.put {B p o : Nat} {u : Value} {L : Nat → List Mt} {K : Nat → Hd} {w : World} (h : OwnLv B L K w) (hp : p < B) : OwnLv B L K (w.setCell ⟨p, o, none⟩ u) := h.keep (fun k h1 _ => heap_setCell_other _ _ _ _ (by show k ≠ p; omega))
theorem OwnLv.nil (B : Nat) (w : World) : OwnLv B (fun _ => []) noHd w :=
  ⟨fun _ _ => World.ownsRow_nil _ _ _ _, fun _ _ => rfl, fun _ _ => .inl ⟨rfl, rfl, rfl⟩, fun _ _ _ _ _ => .inl rfl⟩
def upL (L : Nat → List Mt) (i : Nat) (l : List Mt) : Nat → List Mt := fun k => if k = i then l else L k
def upH (K : Nat → Hd) (i : Nat) (h : Hd) : Nat → Hd := fun k => if k = i then h else K k
theorem upL_same (L : Nat → List Mt) (i : Nat) (l : List Mt) : upL L i l i = l := if_pos rfl
theorem upH_same (K : Nat → Hd) (i : Nat) (h : Hd) : upH K i h i = h := if_pos rfl
theorem upL_other (L : Nat → List Mt) {i k : Nat} (l : List Mt) (h : k ≠ i) : upL L i l k = L k := if_neg h
theorem upH_other (K : Nat → Hd) {i k : Nat} (x : Hd) (h : k ≠ i) : upH K i x k = K k := if_neg h
/-- One table more in row i. -/
theorem OwnLv.add {B : Nat} {L : Nat → List Mt} {K : Nat → Hd} {C w1 : World} {tmp : Obj} (h : OwnLv B L K C) {i : Nat} (hi : i < 4) {x : Mt} {g cap : Nat} (hown : w1.ownsRow B 40 7 (.slice (some ⟨g, 0, none⟩) ((K i).n + 1) cap) ((K i).n + 1) ((L i).flatMap cellsM ++ cellsM x))
    (hgrow : (C.alloc tmp).grownBy w1 (Value.slice (K i).a (K i).n (K i).c).ownBlock) (hat : (Value.slice (K i).a (K i).n (K i).c).ownBlock = some g ∨ g = (C.alloc tmp).heap.size) : OwnLv B (upL L i (L i ++ [x])) (upH K i ⟨some ⟨g, 0, none⟩, (K i).n + 1, cap, g, 0⟩) w1 := by
  have hg : ∀ j, j < 4 → j ≠ i → (K j).a = none ∨ (K j).b ≠ g := by
    intro j hj hne
    rcases own_of (h.shp j hj) with ⟨e, _⟩ | ⟨e, eb⟩
    · exact .inl e
    · refine .inr fun e2 => ?_
      obtain ⟨_, r2, _⟩ := row_of (h.row j hj) _ eb
      rcases hat with ha | ha
      · rcases own_of (h.shp i hi) with ⟨f, fb⟩ | ⟨f, fb⟩
        · rw [fb] at ha; cases ha
        · rw [fb] at ha
          injection ha with ha
          rcases h.apart j i hj hi hne with q | q | q
          · exact e q
          · exact f q
          · exact q (by omega)
      · rw [World.size_alloc] at ha; omega
  refine ⟨fun j hj => ?_, fun j hj => ?_, fun j hj => ?_, fun j k hj hk hne => ?_⟩
  · by_cases e : j = i
    · subst e
      rw [upL_same, upH_same, rowG_snoc]
      exact hown
    · rw [upL_other _ _ e, upH_other _ _ e]
      refine ((h.row j hj).alloc tmp).kept hgrow ?_
      rcases own_of (h.shp j hj) with ⟨_, eb⟩ | ⟨f, eb⟩
      · exact .inl eb
      · refine .inr fun e2 => ?_
        rw [eb] at e2
        rcases own_of (h.shp i hi) with ⟨_, fb⟩ | ⟨f2, fb⟩
        · rw [fb] at e2; cases e2
        · rw [fb] at e2
          injection e2 with e2
          rcases h.apart j i hj hi e with q | q | q
          · exact f q
          · exact f2 q
          · exact q e2
  · by_cases e : j = i
    · subst e
      rw [upL_same, upH_same, List.length_append, h.n j hj]; rfl
    · rw [upL_other _ _ e, upH_other _ _ e]; exact h.n j hj
  · by_cases e : j = i
    · subst e
      rw [upH_same]; exact .inr ⟨rfl, rfl⟩
    · rw [upH_other _ _ e]; exact h.shp j hj
  · by_cases e : j = i
    · subst e
      rw [upH_same, upH_other _ _ (Ne.symm hne)]
      rcases hg k hk (Ne.symm hne) with q | q
      · exact .inr (.inl q)
      · exact .inr (.inr (Ne.symm q))
    · by_cases e2 : k = i
      · subst e2
        rw [upH_same, upH_other _ _ e]
        rcases hg j hj e with q | q
        · exact .inl q
        · exact .inr (.inr q)
      · rw [upH_other _ _ e, upH_other _ _ e2]; exact h.apart j k hj hk hne
/-- The array of the levels' heads. -/
theorem lvs_set {p : Nat} {K : Nat → Hd} {w : World} (h : w.heap[p]? = some (lvsO K)) {i : Nat} (hi : i < 4) (k : Hd) : (w.setCell ⟨p, i, none⟩ (.slice k.a k.n k.c)).heap[p]? = some (lvsO (upH K i k)) := by
  have := heap_setCell_same _ _ i _ _ (.slice k.a k.n k.c) h
  refine this.trans ?_
  rcases (show i = 0 ∨ i = 1 ∨ i = 2 ∨ i = 3 by omega) with rfl | rfl | rfl | rfl
  all_goals rfl
theorem lvs_cell {p : Nat} {K : Nat → Hd} {w : World} (h : w.heap[p]? = some (lvsO K)) {i : Nat} (hi : i < 4) : w.cell? ⟨p, i, none⟩ = some (.slice (K i).a (K i).n (K i).c) := by
  simp only [World.cell?, h]
  rcases (show i = 0 ∨ i = 1 ∨ i = 2 ∨ i = 3 by omega) with rfl | rfl | rfl | rfl
  all_goals rfl
theorem lvs_frozen {p : Nat} {K : Nat → Hd} {w : World} (h : w.heap[p]? = some (lvsO K)) : ∀ o, w.frozen? ⟨p, o, none⟩ = false := fun o => by simp [World.frozen?, h]
/-! ### The set of those that go -/
theorem kG_inj {x y : Gn} (hx : GnIn x) (hy : GnIn y) (h : kG x = kG y) : x = y := by
  have wf : ∀ {z : Gn}, GnIn z → ∀ a ∈ [Lit.int .i64 z.lev, Lit.int .u64 (z.num : Int)], a.keyWf := fun {z} hz a ha => by
    simp only [List.mem_cons, List.not_mem_nil, or_false] at ha
    rcases ha with rfl | rfl
    · exact hz.1
    · have := hz.2; simp [Lit.keyWf, Lit.wf, IntKind.min, IntKind.max, IntKind.signed, IntKind.bits]; omega
  unfold kG at h
  injection h with h
  have := keyBytes_inj (l := [.int .i64 x.lev, .int .u64 (x.num : Int)]) (l' := [.int .i64 y.lev, .int .u64 (y.num : Int)]) ⟨rfl, rfl, trivial⟩ (wf hx) (wf hy) h
  obtain ⟨a, b⟩ := x
  obtain ⟨c, d⟩ := y
  simp at this
  obtain ⟨h1, h2⟩ := this
  subst h1
  obtain rfl : b = d := by omega
  rfl
def GSetAt (b n : Nat) (S : List Gn) (w : World) : Prop := ∃ D : DataW Unit, w.ownsMap Try.prog 45 (unitElem (H := Unit)) b n D ∧ ∀ x : Gn, GnIn x → Maps.has D (kG x) = tf (x ∈ S)
theorem GSetAt.lt {b n : Nat} {S : List Gn} {w : World} (h : GSetAt b n S w) : b < w.heap.size := by obtain ⟨D, h1, _⟩ := h; exact h1.lt
theorem GSetAt.keep {b n : Nat} {S : List Gn} {w w' : World} (h : GSetAt b n S w) (hk : w'.heap[b]? = w.heap[b]?) : GSetAt b n S w' := by
  obtain ⟨D, ⟨es, c, h1, h2⟩, h3⟩ := h
  exact ⟨D, ⟨es, c, hk.trans h1, h2⟩, h3⟩
theorem GSetAt.below {b n : Nat} {S : List Gn} {w w' : World} (h : GSetAt b n S w) (hb : Below w.heap.size w w') : GSetAt b n S w' := h.keep (hb.block b h.lt)
theorem GSetAt.put {b n : Nat} {S : List Gn} {w' : World} {D : DataW Unit} {x : Gn} {v : DataW Unit} (hx : GnIn x) (h : w'.ownsMap Try.prog 45 (unitElem (H := Unit)) b n (D.put (kG x) v)) (hm : Maps.IsMap D) (hs : ∀ x : Gn, GnIn x → Maps.has D (kG x) = tf (x ∈ S)) : GSetAt b n (S ++ [x]) w' := by
  refine ⟨_, h, fun y hy => ?_⟩
  by_cases e : y = x
  · subst e
    rw [Maps.has_put_same hm (by trivial), tf_true (by simp)]
  · rw [Maps.has_put_other (fun h => e (kG_inj hy hx h)), hs y hy]
    exact tf_congr (by simp [e])
theorem GSetAt.new (w : World) : GSetAt w.heap.size 0 [] (w.alloc (.map #[] 0)) := ⟨_, World.ownsMap_made w Try.prog _ _, fun x _ => by rw [tf_false (by simp)]; rfl⟩
end Go.Proofs.Ytnmjfdejgfmoiaa
/-
  slices.SortFunc at tables: by their numbers, by their first keys. Condition: fewer than 2^62 tables.
-/
namespace Go.Proofs.Ytnmjfdejgfmoiaa
set_option maxRecDepth 100000
open Go Go.RowKit Go.Lib Go.Sort Go.Shelf
/-- What cmp.Compare answers, as a number. -/
def cmpI (lt gt : Bool) : Int := if lt = true then -1 else if gt = true then 1 else 0
def cfNum (x y : Mt) : Int := cmpI (decide (x.num < y.num)) (decide (y.num < x.num))
def cfKey (x y : Mt) : Int := cmpI (Op.bytesLess x.fst.toList y.fst.toList) (Op.bytesLess y.fst.toList x.fst.toList)
theorem nanU (a : Int) (w : World) : Calls Try.prog 50 #[.int .u64 a] w fun e w' => e = .returned (.bool false) ∧ w' = w := by
  go_enter Try.func50, Try.ntmps50
  go_wp2_with fail
  go_returns
  exact ⟨by simp, rfl⟩
theorem nanS (a : ByteArray) (w : World) : Calls Try.prog 51 #[.string a] w fun e w' => e = .returned (.bool false) ∧ w' = w := by
  go_enter Try.func51, Try.ntmps51
  go_wp2_with fail
  go_returns
  exact ⟨by simp, rfl⟩
set_option maxRecDepth 100000 in
set_option maxHeartbeats 4000000 in
theorem cmpU_any (a b : Nat) (w : World) : Calls Try.prog 41 #[.int .u64 (a : Int), .int .u64 (b : Int)] w fun e w' => e = .returned (.int .i64 (cmpI (decide (a < b)) (decide (b < a)))) ∧ w' = w := by
  have N1 := Lib.hid (fun x u => nanU x u)
  rcases Nat.lt_trichotomy a b with h | h | h
  · have g1 : (a : Int) < (b : Int) := by omega
    have g2 : decide ((a : Int) < (b : Int)) = true := decide_eq_true g1
    rw [decide_eq_true h]
    clear h
    go_enter Try.func41, Try.ntmps41
    go_wp2_with (go_at_call 50; ((with_reducible refine (N1.out _ _).mono ?_); rintro e w1 ⟨rfl, rfl⟩))
    go_returns
    exact ⟨rfl, rfl⟩
  · subst h
    have g1 : ¬ (a : Int) < (a : Int) := by omega
    rw [decide_eq_false (Nat.lt_irrefl a)]
    go_enter Try.func41, Try.ntmps41
    go_wp2_with (go_at_call 50; ((with_reducible refine (N1.out _ _).mono ?_); rintro e w1 ⟨rfl, rfl⟩))
    go_returns
    exact ⟨rfl, rfl⟩
  · have g1 : ¬ (a : Int) < (b : Int) := by omega
    have g2 : (b : Int) < (a : Int) := by omega
    have g3 : decide ((a : Int) < (b : Int)) = false := decide_eq_false g1
    have g4 : decide ((b : Int) < (a : Int)) = true := decide_eq_true g2
    rw [decide_eq_true h, decide_eq_false (by omega)]
    clear h
    go_enter Try.func41, Try.ntmps41
    go_wp2_with (go_at_call 50; ((with_reducible refine (N1.out _ _).mono ?_); rintro e w1 ⟨rfl, rfl⟩))
    go_returns
    exact ⟨rfl, rfl⟩
theorem gtr_strE (a b : ByteArray) (B : Bool) (h : (!(Op.bytesLess a.toList b.toList || a.toList == b.toList)) = B) (u : World) : (binOp .gtr 9 (.string a) (.string b)).run Try.prog u = .ok (.bool B) u := by
  have e : binOp .gtr 9 (.string a) (.string b) = pure (.bool (!(Op.bytesLess a.toList b.toList || a.toList == b.toList))) := by simp [binOp, Op.stringOp]
  rw [e, h]
  rfl
set_option maxRecDepth 100000 in
set_option maxHeartbeats 4000000 in
theorem cmpS_any (a b : ByteArray) (w : World) : Calls Try.prog 43 #[.string a, .string b] w fun e w' => e = .returned (.int .i64 (cmpI (Op.bytesLess a.toList b.toList) (Op.bytesLess b.toList a.toList))) ∧ w' = w := by
  have N1 := Lib.hid (fun x u => nanS x u)
  cases h1 : Op.bytesLess a.toList b.toList with
  | true =>
    go_enter Try.func43, Try.ntmps43
    go_wp2_with (go_at_call 51; ((with_reducible refine (N1.out _ _).mono ?_); rintro e w1 ⟨rfl, rfl⟩))
    go_returns
    exact ⟨rfl, rfl⟩
  | false =>
    cases h2 : Op.bytesLess b.toList a.toList with
    | true =>
      have GT := gtr_strE a b true (by
        have : (a.toList == b.toList) = false := by
          rw [beq_eq_false_iff_ne]
          intro e
          rw [e, less_before, WideAt.bytes_irrefl] at h2
          cases h2
        rw [h1, this]; rfl)
      go_enter Try.func43, Try.ntmps43
      go_wp2_with (go_at_call 51; ((with_reducible refine (N1.out _ _).mono ?_); rintro e w1 ⟨rfl, rfl⟩))
      go_returns
      exact ⟨rfl, rfl⟩
    | false =>
      have GT := gtr_strE a b false (by
        have : (a.toList == b.toList) = true := by
          rw [beq_iff_eq]
          rcases Classical.em (a.toList = b.toList) with e | e
          · exact e
          · rcases WideAt.bytes_total _ _ e with t | t
            · rw [← less_before, h1] at t; cases t
            · rw [← less_before, h2] at t; cases t
        rw [h1, this]; rfl)
      go_enter Try.func43, Try.ntmps43
      go_wp2_with (go_at_call 51; ((with_reducible refine (N1.out _ _).mono ?_); rintro e w1 ⟨rfl, rfl⟩))
      go_returns
      exact ⟨rfl, rfl⟩
set_option maxRecDepth 100000 in
set_option maxHeartbeats 4000000 in
theorem closNum (x y : Mt) (W : World) : Calls Try.prog 40 #[.agg (cellsM x).toArray, .agg (cellsM y).toArray] W fun e w' => e = .returned (.int .i64 (cfNum x y)) ∧ ∃ q os', w' = grow (W.drewN q) os' := by
  have C := Lib.hid (fun u => cmpU_any x.num y.num u)
  unfold cfNum
  obtain ⟨r, hr⟩ := named (cmpI (decide (x.num < y.num)) (decide (y.num < x.num)))
  rw [← hr.out] at C ⊢
  replace hr := Lib.hid trivial
  show Calls _ _ #[.agg #[.int .u64 (x.num : Int), .int .i64 x.size, .int .i64 x.rows, .string x.fst, .string x.lst, .int .u64 (x.least : Int), .int .u64 (x.gr : Int)], .agg #[.int .u64 (y.num : Int), .int .i64 y.size, .int .i64 y.rows, .string y.fst, .string y.lst, .int .u64 (y.least : Int), .int .u64 (y.gr : Int)]] _ _
  go_enter Try.func40, Try.ntmps40
  go_wp2_with (go_at_call 41; ((with_reducible refine (C.out _).mono ?_); rintro e w1 ⟨rfl, rfl⟩))
  go_returns
  exact ⟨rfl, 0, _, by rw [alloc_eq_grow, alloc_eq_grow, grow_grow]; rfl⟩
set_option maxRecDepth 100000 in
set_option maxHeartbeats 4000000 in
theorem closKey (x y : Mt) (W : World) : Calls Try.prog 42 #[.agg (cellsM x).toArray, .agg (cellsM y).toArray] W fun e w' => e = .returned (.int .i64 (cfKey x y)) ∧ ∃ q os', w' = grow (W.drewN q) os' := by
  have C := Lib.hid (fun u => cmpS_any x.fst y.fst u)
  unfold cfKey
  obtain ⟨r, hr⟩ := named (cmpI (Op.bytesLess x.fst.toList y.fst.toList) (Op.bytesLess y.fst.toList x.fst.toList))
  rw [← hr.out] at C ⊢
  replace hr := Lib.hid trivial
  show Calls _ _ #[.agg #[.int .u64 (x.num : Int), .int .i64 x.size, .int .i64 x.rows, .string x.fst, .string x.lst, .int .u64 (x.least : Int), .int .u64 (x.gr : Int)], .agg #[.int .u64 (y.num : Int), .int .i64 y.size, .int .i64 y.rows, .string y.fst, .string y.lst, .int .u64 (y.least : Int), .int .u64 (y.gr : Int)]] _ _
  go_enter Try.func42, Try.ntmps42
  go_wp2_with (go_at_call 43; ((with_reducible refine (C.out _).mono ?_); rintro e w1 ⟨rfl, rfl⟩))
  go_returns
  exact ⟨rfl, 0, _, by rw [alloc_eq_grow, alloc_eq_grow, grow_grow]; rfl⟩
theorem ltNum (x y : Mt) : ltOf cfNum x y = decide (x.num < y.num) := by
  unfold ltOf cfNum cmpI
  by_cases h1 : x.num < y.num
  · simp [h1]
  · by_cases h2 : y.num < x.num <;> simp [h1, h2]
theorem ltKey (x y : Mt) : ltOf cfKey x y = Op.bytesLess x.fst.toList y.fst.toList := by
  unfold ltOf cfKey cmpI
  cases h1 : Op.bytesLess x.fst.toList y.fst.toList with
  | true => simp
  | false => cases h2 : Op.bytesLess y.fst.toList x.fst.toList <;> simp
theorem swoNum : SWO (ltOf cfNum) where
  irrefl x := by rw [ltNum]; simp
  trans x y z h1 h2 := by rw [ltNum] at *; simp at *; omega
  ntrans x y z h1 h2 := by rw [ltNum] at *; simp at *; omega
theorem swoKey : SWO (ltOf cfKey) where
  irrefl x := by rw [ltKey, less_before]; exact WideAt.bytes_irrefl _
  trans x y z h1 h2 := by
    rw [ltKey, less_before] at *
    exact WideShapes.bytes_trans _ _ _ h1 h2
  ntrans x y z h1 h2 := by
    rw [ltKey, less_before] at *
    cases h3 : bytesBefore x.fst.toList z.fst.toList with
    | false => rfl
    | true =>
      rcases Classical.em (x.fst.toList = y.fst.toList) with e | e
      · rw [e, h2] at h3; cases h3
      · rcases WideAt.bytes_total _ _ e with t | t
        · rw [t] at h1; cases h1
        · have := WideShapes.bytes_trans _ _ _ t h3
          rw [h2] at this; cases this
/-- A level, sorted. -/
def srt (cf : Mt → Mt → Int) (l : List Mt) : List Mt := (pdq (ltOf cf) l.toArray 0 l.toArray.size (Lib.bitLen l.toArray.size) true true).toList
theorem srt_perm (cf : Mt → Mt → Int) (hO : SWO (ltOf cf)) (l : List Mt) : (srt cf l).Perm l ∧ ∀ (i j : Nat) (x y : Mt), i < j → (srt cf l)[i]? = some x → (srt cf l)[j]? = some y → ltOf cf y x = false := by
  obtain ⟨⟨h1, _, h2⟩, h3⟩ := pdq_sorts (ltOf cf) hO l.toArray 0 l.toArray.size (Lib.bitLen l.toArray.size) true true (Nat.zero_le _) (Nat.le_refl _) (Or.inl rfl)
  unfold srt
  obtain ⟨d, hd⟩ : ∃ d, d = pdq (ltOf cf) l.toArray 0 l.toArray.size (Lib.bitLen l.toArray.size) true true := ⟨_, rfl⟩
  rw [← hd] at h1 h2 h3 ⊢
  refine ⟨?_, fun i j x y hij hx hy => ?_⟩
  · have e1 : d.extract 0 l.toArray.size = d := by rw [← h1]; simp
    have e2 : l.toArray.extract 0 l.toArray.size = l.toArray := by simp
    rw [e1, e2] at h2
    exact h2
  · have hj : j < d.size := by
      have := (List.getElem?_eq_some_iff.1 hy).1
      simpa using this
    have := h3 i j (Nat.zero_le _) hij (by rw [← h1]; exact hj)
    have gi : d[i]! = x := by
      rw [Array.getElem?_toList] at hx
      simp [getElem!_def, hx]
    have gj : d[j]! = y := by
      rw [Array.getElem?_toList] at hy
      simp [getElem!_def, hy]
    rw [gi, gj] at this
    exact this
theorem srt_len (cf : Mt → Mt → Int) (hO : SWO (ltOf cf)) (l : List Mt) : (srt cf l).length = l.length := (srt_perm cf hO l).1.length_eq
theorem one_mt (x : Mt) : ∀ v ∈ cellsM x, v.oneCell' = true := fun v hv => one_m [x] v (by simpa using hv)
theorem holds_ms {h : Hd} {l : List Mt} {w : World} (hM : Ms h l w) (ho : h.o = 0) (hf : ∀ j, w.frozen? ⟨h.b, j, none⟩ = false) : HoldsK cellsM 7 w h.b 0 l.toArray := by
  intro j hj
  rw [size_flatK] at hj
  have hj' : j < l.length * 7 := by simpa using hj
  have hi : j / 7 < l.length := by omega
  have hx : l[j / 7]? = some l[j / 7] := List.getElem?_eq_getElem hi
  have hm : j % 7 < (cellsM l[j / 7]).length := Nat.mod_lt _ (by decide)
  have h2 := hM.sl.at' (j / 7) _ hx (j % 7) _ (List.getElem?_eq_getElem hm)
  rw [ho] at h2
  refine ⟨?_, hf _⟩
  rw [get_flatK _ _ _ _ hj]
  rw [show (0 : Nat) + j = 0 + j / 7 * 7 + j % 7 by omega, h2]
  congr 1
  have e1 : l.toArray[j / 7]! = l[j / 7] := by simp [getElem!_def, hi]
  rw [e1]
  simp [getElem!_def, hm]
theorem ms_holds {h : Hd} {l l' : List Mt} {w w' : World} (hM : Ms h l w) (hs : (h.a = none ∧ h.n = 0 ∧ h.c = 0) ∨ (h.a = some ⟨h.b, 0, none⟩ ∧ h.o = 0)) (hl : l'.length = l.length) (hsz : w.heap.size ≤ w'.heap.size) (hH : HoldsK cellsM 7 w' h.b 0 l'.toArray) : Ms h l' w' := by
  refine ⟨⟨hl.trans hM.len, hM.sl.cap, hM.sl.most, fun h0 => ⟨(hM.sl.addr h0).1, Nat.lt_of_lt_of_le (hM.sl.addr h0).2 hsz⟩, fun j x hx m u hu => ?_⟩, hM.none'⟩
  have hj : j < l'.length := (List.getElem?_eq_some_iff.1 hx).1
  have hm : m < 7 := (List.getElem?_eq_some_iff.1 hu).1
  have hn : 0 < h.n := by have := hM.len; omega
  have ho : h.o = 0 := by
    rcases hs with ⟨_, e, _⟩ | ⟨_, e⟩
    · omega
    · exact e
  have h1 := (hH.cell (i := j) (c := m) (by simpa using hj) hm).1
  have e1 : l'.toArray[j]! = x := by simp [getElem!_def, hx]
  rw [e1] at h1
  have e2 : (cellsM x)[m]! = u := by simp [getElem!_def, hu]
  rw [e2] at h1
  rw [ho]; exact h1
theorem but_sort (cf : Mt → Mt → Int) (w : World) (b n : Nat) (d : Array Mt) (os : Array Obj) : But b w (sortWorldK cellsM 7 w b 0 n d os) := by
  refine ⟨rfl, rfl, rfl, size_sortWorldK_c cellsM 7 w b 0 n d os, fun k hk hb => ?_⟩
  unfold sortWorldK
  rw [heap_grow_old _ _ (by rw [size_putRowK]; exact hk)]
  unfold putRowK putRow mapBlock
  simp [Array.getElem?_modify, Ne.symm hb, Sort.ahead]
set_option maxRecDepth 100000 in
set_option maxHeartbeats 4000000 in
/-- One level is sorted. -/
theorem sort_any (g : Nat) (cf : Mt → Mt → Int) (hO : SWO (ltOf cf)) (eg : ∀ args w, (callFunc g args).run Try.prog w = .ok (.enter g args) w) (hc : ∀ x y W, Calls Try.prog g #[.agg (cellsM x).toArray, .agg (cellsM y).toArray] W fun e w' => e = .returned (.int .i64 (cf x y)) ∧ ∃ q os', w' = grow (W.drewN q) os')
    {h : Hd} {l : List Mt} {w : World} (hM : Ms h l w) (hs : (h.a = none ∧ h.n = 0 ∧ h.c = 0) ∨ (h.a = some ⟨h.b, 0, none⟩ ∧ h.o = 0)) (hb : h.a ≠ none → h.b < w.heap.size ∧ ∀ j, w.frozen? ⟨h.b, j, none⟩ = false) (hn : h.n ≤ 1000000) :
    Calls Try.prog 39 #[.slice h.a h.n h.c, .func (.func g) #[] #[]] w fun e w' => e = .returned (.tuple #[]) ∧ Ms h (srt cf l) w' ∧ But h.b w w' ∧ (h.a = none → w' = w) ∧ (∀ j, j < h.n * 7 → w'.frozen? ⟨h.b, h.o + j, none⟩ = false) := by
  rcases hs with ⟨e1, e2, e3⟩ | ⟨e1, e2⟩
  · rw [e1, e2, e3]
    refine (sortf_none (.func (.func g) #[] #[]) w).mono ?_
    rintro e w' ⟨rfl, rfl⟩
    have hl : l = [] := List.length_eq_zero_iff.1 (by rw [hM.len, e2])
    subst hl
    have : srt cf [] = [] := List.length_eq_zero_iff.1 (srt_len cf hO [])
    rw [this]
    exact ⟨rfl, hM, But.refl _ _, fun _ => rfl, fun j hj => absurd hj (by omega)⟩
  · obtain ⟨b1, b2⟩ := hb (by rw [e1]; simp)
    have hH := holds_ms hM e2 b2
    have hcon := AnyQ.slices_SortFunc_eq Try.sortf 7 Try.isAgg40 Try.sizeOf40 cellsM (fun _ => rfl) one_mt cf hO g #[] h.b 0 h.c l.toArray w eg (fun _ _ _ _ x y => hc x y _) hH b1 (by have := hM.len; simp; omega)
    have es : l.toArray.size = h.n := by rw [← hM.len]; simp
    rw [e1, ← es]
    refine Calls.mono (show Calls Try.prog 39 _ _ _ from hcon) ?_
    rintro e w' ⟨rfl, n, os, rfl⟩
    have hlen := srt_len cf hO l
    have hps : (pdq (ltOf cf) l.toArray 0 l.toArray.size (Lib.bitLen l.toArray.size) true true).size = l.toArray.size := by
      unfold srt at hlen; simpa using hlen
    have hHH : HoldsK cellsM 7 (sortWorldK cellsM 7 w h.b 0 n (pdq (ltOf cf) l.toArray 0 l.toArray.size (Lib.bitLen l.toArray.size) true true) os) h.b 0 (srt cf l).toArray := by
      have := holdsK_sortWorldK_c cellsM 7 w h.b 0 l.toArray (pdq (ltOf cf) l.toArray 0 l.toArray.size (Lib.bitLen l.toArray.size) true true) n os hH b1 hps
      unfold srt
      simpa using this
    refine ⟨rfl, ms_holds hM (.inr ⟨e1, e2⟩) hlen (size_sortWorldK_c cellsM 7 w h.b 0 n _ os) hHH, but_sort cf w h.b n _ os, fun hc => (by cases hc), fun j hj => ?_⟩
    have hj7 : j / 7 < (srt cf l).toArray.size := by
      have h2 : (srt cf l).toArray.size = l.length := by simpa using hlen
      have h3 : l.toArray.size = l.length := by simp
      rw [h2]; omega
    have h1 := (hHH.cell (i := j / 7) (c := j % 7) hj7 (Nat.mod_lt _ (by decide))).2
    rw [show 0 + j / 7 * 7 + j % 7 = j by omega] at h1
    rw [e2, Nat.zero_add]; exact h1
end Go.Proofs.Ytnmjfdejgfmoiaa
