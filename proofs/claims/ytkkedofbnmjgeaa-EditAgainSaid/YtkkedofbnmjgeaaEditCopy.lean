/-
  The contract of the document's Copy: each level in memory of its own, a mark behind it. Condition: at most 80 tables a level.
-/
import Derived.Test.YtkkedofbnmjgeaaEditRight
import Derived.Test.YtkkedofbnmjgeaaEditMake
import Derived.Test.YtkkedofbnmjgeaaAppendSrc
import Derived.Test.YtkkedofbnmjgeaaEditApply
import Derived.Deep.Onto
namespace Go.Proofs.Ytkkedofbnmjgeaa
set_option maxRecDepth 100000
open Go Go.RowKit
theorem sl_src {α : Type} {k : Nat} {cells : α → List Value} (hcl : ∀ x, (cells x).length = k) (hk : 0 < k) {a : Option Addr} {n c b o : Nat} {l : List α} {w : World} (s : SlOf k cells a n c b o l w) : ∀ p, a = some p → ∀ j u, (l.flatMap cells)[j]? = some u → w.cell? (p.add j) = some u := by
  intro p hp j u hu
  have hl : (l.flatMap cells).length = l.length * k := rowG_len hcl l
  have hj : j < l.length * k := by rw [← hl]; exact (List.getElem?_eq_some_iff.1 hu).1
  have hi : j / k < l.length := Nat.div_lt_of_lt_mul (by rw [Nat.mul_comm]; exact hj)
  have hm : j % k < k := Nat.mod_lt _ hk
  have hx : l[j / k]? = some l[j / k] := List.getElem?_eq_getElem hi
  have e : j / k * k + j % k = j := by rw [Nat.mul_comm]; exact Nat.div_add_mod j k
  have h1 := rowG_at hcl l (j / k) (j % k) hx hm
  rw [e, hu] at h1
  have h2 := s.at' (j / k) _ hx (j % k) u h1.symm
  obtain ⟨ha, _⟩ := s.addr (by rw [← s.len]; exact Nat.lt_of_le_of_lt (Nat.zero_le _) hi)
  rw [ha] at hp
  cases hp
  have e1 : (⟨b, o, none⟩ : Addr).add j = ⟨b, o + j / k * k + j % k, none⟩ := by
    rw [Nat.add_assoc, e]
    unfold Addr.add
    split
    · rename_i h0
      rw [h0, Nat.add_zero]
    · rfl
  rw [e1]; exact h2
theorem infoM : (Try.prog.info? 40).map (fun i => (i.zero, i.size, i.bytes)) = some (some (.agg #[.int .u64 0, .int .i64 0, .int .i64 0, .string .empty, .string .empty, .int .u64 0, .int .u64 0]), 7, 72) := by kernel_rfl
theorem one_m (l : List Mt) : ∀ u ∈ l.flatMap cellsM, u.oneCell' = true := by
  intro u hu
  obtain ⟨x, _, hu⟩ := List.mem_flatMap.1 hu
  simp only [cellsM, List.mem_cons, List.not_mem_nil, or_false] at hu
  rcases hu with rfl | rfl | rfl | rfl | rfl | rfl | rfl <;> rfl
/-- The mark behind a copy. -/
def markM : Mt := ⟨0, 0, 77, ⟨#[]⟩, ⟨#[]⟩, 0, 0⟩
/-- A level's copy, with its mark. -/
structure Cp (h : Hd) (l : List Mt) (w : World) : Prop where
  a : h.a = some ⟨h.b, 0, none⟩
  o : h.o = 0
  n : h.n = l.length
  row : w.ownsRow 0 40 7 (.slice (some ⟨h.b, 0, none⟩) (h.n + 1) h.c) (h.n + 1) ((l ++ [markM]).flatMap cellsM)
theorem Cp.keep {h : Hd} {l : List Mt} {w w' : World} (k : Cp h l w) (hk : w'.heap[h.b]? = w.heap[h.b]?) : Cp h l w' := by
  refine ⟨k.a, k.o, k.n, k.row.1, ?_⟩
  rcases k.row.2 with h2 | ⟨g, cap, cur, h1, h2, h3, h4⟩
  · exact .inl h2
  · refine .inr ⟨g, cap, cur, h1, h2, ?_, h4⟩
    injection h1 with h1 _ _
    injection h1 with h1
    injection h1 with h1 _ _
    rw [← h1, hk, h1]; exact h3
theorem Cp.lt {h : Hd} {l : List Mt} {w : World} (k : Cp h l w) : h.b < w.heap.size := (row_of k.row h.b rfl).2.1
theorem Cp.below {h : Hd} {l : List Mt} {w w' : World} (k : Cp h l w) (hb : Below w.heap.size w w') : Cp h l w' := k.keep (hb.block _ k.lt)
theorem Cp.ms {h : Hd} {l : List Mt} {w : World} (k : Cp h l w) : Ms h l w := by
  obtain ⟨a, c, b, h1, h2, h3, h4⟩ := sl_of_rowG (cells := cellsM) (fun _ => rfl) (by rw [List.length_append, k.n]; rfl) k.row
  injection h1 with e1 e2 e3
  refine ⟨⟨k.n.symm, ?_, ?_, fun h0 => ⟨by rw [k.a, k.o], k.lt⟩, fun j x hx m u hu => ?_⟩, fun h => by rw [k.a] at h; cases h⟩
  · have := h2.cap; omega
  · have := h2.most; omega
  · have hj : j < l.length := (List.getElem?_eq_some_iff.1 hx).1
    have h5 := h2.at' j x (by rw [List.getElem?_append_left hj]; exact hx) m u hu
    have h6 := (h2.addr (by omega)).1
    rw [← e1] at h6
    injection h6 with h6
    injection h6 with h6 _ _
    rw [k.o, h6]; exact h5
/-- The mark's cell, and that there is room for it. -/
theorem Cp.mark {h : Hd} {l : List Mt} {w : World} (k : Cp h l w) : h.n + 1 ≤ h.c ∧ w.cell? ⟨h.b, h.n * 7 + 2, none⟩ = some (.int .i64 77) := by
  obtain ⟨a, c, b, h1, h2, h3, h4⟩ := sl_of_rowG (cells := cellsM) (fun _ => rfl) (by rw [List.length_append, k.n]; rfl) k.row
  injection h1 with e1 e2 e3
  have h6 := (h2.addr (by omega)).1
  rw [← e1] at h6
  injection h6 with h6
  injection h6 with h6 _ _
  refine ⟨by have := h2.cap; omega, ?_⟩
  have h5 := h2.at' h.n markM (by rw [k.n, List.getElem?_append_right (Nat.le_refl _)]; simp) 2 (.int .i64 77) rfl
  rw [h6]
  rw [Nat.zero_add] at h5
  exact h5
/-- Copy under way: the levels below j lie in memory of their own. -/
structure CyI (v : Vr) (H : Nat → Hd) (j : Nat) (K : Nat → Hd) (w wr : World) : Prop where
  ver : VerB w.heap.size v (fun i => if i < j then K i else H i) wr
  res : wr.heap[w.heap.size + 1]? = some (.cells #[.int .u64 0, .int .u64 0, .int .u64 0, .slice none 0 0, .slice none 0 0, .slice none 0 0, .slice none 0 0] 26 (0, 0))
  cp : ∀ i, i < j → Cp (K i) (v.lv i) wr ∧ w.heap.size + 2 ≤ (K i).b
  f : Below w.heap.size w wr
  big : w.heap.size + 2 ≤ wr.heap.size
theorem CyI.below {v : Vr} {H : Nat → Hd} {j : Nat} {K : Nat → Hd} {w wr u : World} (h : CyI v H j K w wr) (hb : Below wr.heap.size wr u) : CyI v H j K w u :=
  ⟨h.ver.below hb, (hb.block _ (by have := h.big; omega)).trans h.res, fun i hi => ⟨(h.cp i hi).1.below hb, (h.cp i hi).2⟩, below_of h.f hb, Nat.le_trans h.big hb.size⟩
theorem CyI.new (v : Vr) (H K : Nat → Hd) (w : World) : CyI v H 0 K w ((w.alloc (verO v H)).alloc (.cells #[.int .u64 0, .int .u64 0, .int .u64 0, .slice none 0 0, .slice none 0 0, .slice none 0 0, .slice none 0 0] 26 (0, 0))) := by
  refine ⟨(VerB.new v H w).below (below_alloc _ _), ?_, fun i hi => absurd hi (Nat.not_lt_zero i), (below_alloc w _).alloc (by simp) _, by rw [World.size_alloc, World.size_alloc]; exact Nat.le_refl _⟩
  have := heap_alloc_new (w.alloc (verO v H)) (.cells #[.int .u64 0, .int .u64 0, .int .u64 0, .slice none 0 0, .slice none 0 0, .slice none 0 0, .slice none 0 0] 26 (0, 0))
  rwa [World.size_alloc] at this
theorem ver_set {v : Vr} {G : Nat → Hd} {p : Nat} {w : World} (h : VerB p v G w) {j : Nat} (hj : j < 4) (k : Hd) : VerB p v (fun i => if i = j then k else G i) (w.setCell ⟨p, 3 + j, none⟩ (hdV k)) := by
  have := heap_setCell_same _ _ (3 + j) _ _ (hdV k) h
  refine this.trans ?_
  rcases (show j = 0 ∨ j = 1 ∨ j = 2 ∨ j = 3 by omega) with rfl | rfl | rfl | rfl
  all_goals rfl
/-- One level more. -/
theorem CyI.add {v : Vr} {H : Nat → Hd} {j : Nat} {K : Nat → Hd} {w wr : World} (h : CyI v H j K w wr) (hj : j < 4) {k : Hd} (hk : Cp k (v.lv j) wr) (hb : w.heap.size + 2 ≤ k.b) : CyI v H (j + 1) (fun i => if i = j then k else K i) w (wr.setCell ⟨w.heap.size, 3 + j, none⟩ (.slice k.a k.n k.c)) := by
  have hset := ver_set h.ver hj k
  have hle : Below w.heap.size w (wr.setCell ⟨w.heap.size, 3 + j, none⟩ (.slice k.a k.n k.c)) := h.f.setCell (p := ⟨w.heap.size, 3 + j, none⟩) (Nat.le_refl _) _
  refine ⟨?_, (heap_setCell_other _ _ _ _ (by show w.heap.size + 1 ≠ w.heap.size; omega)).trans h.res, fun i hi => ?_, hle, by rw [World.size_setCell]; exact h.big⟩
  · have e : (fun i => if i < j + 1 then (if i = j then k else K i) else H i) = (fun i => if i = j then k else if i < j then K i else H i) := by
      funext i
      by_cases h1 : i = j
      · subst h1; simp
      · by_cases h2 : i < j
        · rw [if_pos (by omega), if_neg h1, if_neg h1, if_pos h2]
        · rw [if_neg (by omega), if_neg h1, if_neg h2]
    rw [e]; exact hset
  · by_cases h1 : i = j
    · subst h1
      rw [if_pos rfl]
      exact ⟨hk.keep (heap_setCell_other _ _ _ _ (by show k.b ≠ w.heap.size; omega)), hb⟩
    · rw [if_neg h1]
      obtain ⟨q1, q2⟩ := h.cp i (by omega)
      exact ⟨q1.keep (heap_setCell_other _ _ _ _ (by show (K i).b ≠ w.heap.size; omega)), q2⟩
theorem wr_allC (m : Nat) (h : m ≤ 1099511627776) : wrap64 ((m : Int) + 1 - 1) = (m : Int) ∧ (m : Int) + 1 - 1 = (m : Int) ∧ wrap64 (m : Int) = (m : Int) ∧ IntKind.i64.wrap (m : Int) = (m : Int) ∧ IntKind.i64.wrap ((m : Int) + 1 - 1) = (m : Int) := by
  have e : (m : Int) + 1 - 1 = (m : Int) := by omega
  have e2 : wrap64 (m : Int) = (m : Int) := by unfold wrap64; omega
  have e3 : IntKind.i64.wrap (m : Int) = (m : Int) := by simp [IntKind.wrap_i64]; omega
  exact ⟨by rw [e, e2], e, e2, e3, by rw [e, e3]⟩
theorem bound_c {n : Nat} (h : n ≤ 80) : n ≤ 1048576 ∧ n + 1 ≤ maxLen ∧ (n + 1) * 72 ≤ 140737488355328 ∧ n ≤ maxLen := by unfold maxLen; omega
set_option maxRecDepth 100000 in
set_option maxHeartbeats 16000000 in
theorem copy_any {v : Vr} {H : Nat → Hd} {w : World} (hM : VrAt v H w) (hn80 : ∀ i, i < 4 → (H i).n ≤ 80) : Calls Try.prog 12 #[verV v H] w fun r w' => (∃ K : Nat → Hd, r = .returned (verV v K) ∧ ∀ i, i < 4 → Cp (K i) (v.lv i) w') ∧ Below w.heap.size w w' := by
  have I0 := Lib.hid (CyI.new v H H w)
  have VM : Hid (∀ u, Below w.heap.size w u → ∀ i, i < 4 → Ms (H i) (v.lv i) u) := Lib.hid (fun u hu i hi => (hM i hi).below hu)
  have hn80 := Lib.hid hn80
  clear hM
  obtain ⟨ti, hi, hy0, hy1, hy2⟩ := info_parts infoM
  go_enter Try.func12, Try.ntmps12
  go_wp2_with fail
  go_loopw [3] (fun i wr => ∃ j : Nat, j ≤ 4 ∧ i = .int .i64 (j : Int) ∧ ∃ K, Hid (CyI v H j K w wr)) (fun i _ => 4 - (intOf i).toNat)
  case atStart => exact ⟨0, Nat.zero_le _, rfl, _, I0⟩
  case round =>
    clear I0
    obtain ⟨j, hjn, rfl, K, hI⟩ := hrel
    by_cases hlt : j < 4
    · have i0 : (j : Int) < 4 := by omega
      have g0 : ¬ (j : Int) < 0 := by omega
      have M0 := Lib.hid (VM.out _ hI.out.f j hlt)
      have hn := Lib.hid (hn80.out j hlt)
      have L0 := hI.out.ver.lev hlt
      rw [if_neg (Nat.lt_irrefl j)] at L0
      have AD := Lib.hid (fun (u : World) (hu : CyI v H j K w u) (k : Hd) (hk : Cp k (v.lv j) u) (hb : w.heap.size + 2 ≤ k.b) => hu.add hlt hk hb)
      obtain ⟨⟨ha, hnn, hc, hb, ho⟩, hh⟩ := named (H j)
      rw [← hh.out] at M0 hn L0
      simp only at M0 hn L0
      replace hh := Lib.hid trivial
      obtain ⟨l, hl⟩ := named (v.lv j)
      rw [← hl.out] at M0 AD
      replace hl := Lib.hid trivial
      have hll := Lib.hid M0.out.len
      have hm1 := M0.out.sl.cap
      have hm2 := M0.out.sl.most
      have hbd := Lib.hid (bound_c hn.out)
      have OW := Lib.hid (World.ownsRow_made (base := wr.heap.size) (e := 40) (size := 7) wr #[] 0 (Nat.le_refl _) (by unfold maxLen; omega) (by simp))
      have hsr := Lib.hid (sl_src (cells := cellsM) (fun _ => rfl) (by decide) (M0.out.below (below_alloc wr (.cells #[] 40))).sl)
      have hfl : Hid ((l.flatMap cellsM).length = hnn * 7) := Lib.hid (by rw [rowG_len (cells := cellsM) (k := 7) (fun _ => rfl), hll.out])
      obtain ⟨q1, q2, q3, q4, q5⟩ := wr_allC hnn (by have := hn.out; omega)
      have q6 : ¬ (hnn : Int) < 0 := by omega
      have L0a : (wr.alloc (.cells #[] 40)).cell? ⟨w.heap.size, 3 + j, none⟩ = some (.slice ha hnn hc) := ((below_alloc wr _).cell (p := ⟨w.heap.size, 3 + j, none⟩) (by have := hI.out.big; show w.heap.size < _; omega)).trans L0
      have hB1 : wr.heap.size ≤ (wr.alloc (.cells #[] 40)).heap.size := by rw [World.size_alloc]; omega
      go_upto_region 6 with (first
        | (at_builtin; refine wpList_append_src rfl _ _ 23 rfl wr.heap.size 40 7 72 (.agg #[.int .u64 0, .int .i64 0, .int .i64 0, .string .empty, .string .empty, .int .u64 0, .int .u64 0]) Try.underlying23 infoM rfl (by decide) (by decide) (.slice (some ⟨wr.heap.size, 0, none⟩) 0 0) 0 [] ha hnn hc (l.flatMap cellsM) OW.out M0.out.none' hfl.out hsr.out (by rfl) (by rfl) (one_m l) (by decide) hbd.out.1 hB1 ?_; intro v1 w1 hown1 hgrow1 hsh1; rw [Nat.zero_add] at hown1 hsh1; rw [List.nil_append] at hown1; have B1 : Hid (Below wr.heap.size wr w1) := Lib.hid (((below_alloc wr _).grown hgrow1 hB1 (fun r hr => by cases hr; exact Nat.le_refl _))); have O1 := Lib.hid hown1; obtain ⟨va, vc, rfl⟩ := hsh1; have Z1 := Lib.hid B1.out.size; clear hown1 hgrow1)
        | (at_builtin; refine wpList_append_lies _ rfl _ _ 23 rfl wr.heap.size 40 ti (.agg #[.int .u64 0, .int .i64 0, .int .i64 0, .string .empty, .string .empty, .int .u64 0, .int .u64 0]) 7 72 Try.underlying23 hi hy0 hy1 hy2 rfl (by decide) (.slice va hnn vc) hnn (l.flatMap cellsM) (by rfl) (O1.out.alloc _) ⟨w1.heap.size, 0, none⟩ 1 1 (cellsM markM) (by rfl) rfl (World.news_of_block (heap_alloc_new _ _)) (by have := one_m [markM]; simpa using this) (by decide) hbd.out.2.1 hbd.out.2.2.1 (by rw [World.size_alloc]; have := Z1.out; omega) _ rfl ?_; intro g9 cap9 w2 hown2 hgrow2 hat2 _; have B2 : Hid (Below wr.heap.size wr w2) := Lib.hid (B1.out.trans (((Below.refl wr.heap.size w1).alloc Z1.out _).grown hgrow2 (by rw [World.size_alloc]; have := Z1.out; omega) (fun r hr => (row_of O1.out r hr).1))); have O2 := Lib.hid hown2; have G2 : Hid (wr.heap.size ≤ g9 ∧ hnn + 1 ≤ cap9 ∧ cap9 ≤ 9223372036854775807) := Lib.hid (by
            rcases hown2.2 with ⟨h, _⟩ | ⟨g, cap, cur, h1, h2, h3, h4, h5, _⟩
            · cases h
            · cases h1
              exact ⟨h2, h4, by unfold maxLen at h5; omega⟩); clear hown2 hgrow2 hat2))
      have C2 := Lib.hid (hI.out.below B2.out)
      have L2 := (B2.out.cell (p := ⟨w.heap.size, 3 + j, none⟩) (by have := hI.out.big; show w.heap.size < wr.heap.size; omega)).trans L0
      have F2 := C2.out.ver.frozen (3 + j)
      obtain ⟨p1, p2, p3⟩ := G2.out
      have p4 : (hnn : Int) ≤ (cap9 : Int) := by omega
      have CK : Hid (CyI v H (j + 1) (fun i => if i = j then ⟨some ⟨g9, 0, none⟩, hnn, cap9, g9, 0⟩ else K i) w (w2.setCell ⟨w.heap.size, 3 + j, none⟩ (.slice (some ⟨g9, 0, none⟩) hnn cap9))) := Lib.hid (AD.out w2 C2.out ⟨some ⟨g9, 0, none⟩, hnn, cap9, g9, 0⟩ ⟨rfl, rfl, hll.out.symm, by
        have h := O2.out.mono (Nat.zero_le wr.heap.size)
        rw [List.flatMap_append]
        simpa using h⟩ (by have := hI.out.big; show w.heap.size + 2 ≤ g9; omega))
      replace L0 := Lib.hid trivial
      replace L0a := Lib.hid trivial
      replace G2 := Lib.hid trivial
      clear hm1 hm2 p1 p2 p3
      go_wp2_with fail
      go_roundw
      case rel => exact ⟨j + 1, by omega, by go_num, _, CK⟩
      case measure => simp [intOf]; omega
    · obtain rfl : j = 4 := by omega
      have i0 : ¬ ((4 : Nat) : Int) < 4 := by omega
      obtain ⟨x0, x1, x2, x3, x4, x5, x6⟩ := hI.out.ver.cells
      simp only [show (0 : Nat) < 4 by decide, show (1 : Nat) < 4 by decide, show (2 : Nat) < 4 by decide, show (3 : Nat) < 4 by decide, if_true] at x3 x4 x5 x6
      obtain ⟨z0, z1, z2, z3, z4, z5, z6⟩ := (show VerB (w.heap.size + 1) zeroV noHd wr from hI.out.res).cells
      have zf := (show VerB (w.heap.size + 1) zeroV noHd wr from hI.out.res).frozen
      have YC := Lib.hid ((show VerB (w.heap.size + 1) zeroV noHd wr from hI.out.res).put v K).cells
      go_wp2_with fail
      obtain ⟨g0, g1, g2, g3, g4, g5, g6⟩ := YC.out
      refine bodyPost_ret (v := verV v K) (by simp [results, Try.results12, go_sem, g0, g1, g2, g3, g4, g5, g6]) rfl ⟨⟨K, rfl, fun i hi => ?_⟩, below_verPut hI.out.f (Nat.le_succ _) v K⟩
      obtain ⟨q1, q2⟩ := hI.out.cp i hi
      exact q1.keep (heap_verPut (by omega))
end Go.Proofs.Ytkkedofbnmjgeaa
