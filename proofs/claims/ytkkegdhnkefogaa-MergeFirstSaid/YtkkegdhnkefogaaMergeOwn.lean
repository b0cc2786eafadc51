/-
  The copy of rows with a mark behind them, and whether it stands (own, kept: the laws of package merge). Condition: at most 1100 rows.
-/
import Derived.Test.YtkkegdhnkefogaaBlockSlices
import Derived.Test.YtkkegdhnkefogaaRefWith
import Derived.Test.YtkkegdhnkefogaaBut
import Derived.Deep.AppendLies
import Derived.Deep.Upon
import Derived.Laws.Slices
import Derived.StillTailTactics
import Derived.Deep.DrawnRows
namespace Go.Proofs.Ytkkegdhnkefogaa
set_option maxRecDepth 100000
open Go.RowKit
/-- The mark. -/
def markM : Rw := ⟨⟨#[]⟩, 0, 77, ⟨#[]⟩⟩
theorem markR_takeM (l : List Rw) : (l ++ [markM]).take l.length = l := by simp
theorem markR_atM (l : List Rw) : (l ++ [markM])[l.length]? = some markM := by simp
theorem row_of_rsM {a : Option Addr} {n c b o : Nat} {l : List Rw} {w : World} (h : Rs a n c b o l w) : ∀ j u, (rowR l)[j]? = some u → w.cell? ((⟨b, o, none⟩ : Addr).add j) = some u := by
  intro j u hj
  rw [addr_add]
  have hlt : j < l.length * 4 := by have := (List.getElem?_eq_some_iff.1 hj).1; rwa [rowR_len] at this
  obtain ⟨q, r, hq, hr⟩ : ∃ q r, j = q * 4 + r ∧ r < 4 := ⟨j / 4, j % 4, by omega, Nat.mod_lt _ (by omega)⟩
  subst hq
  have hql : q < l.length := by omega
  obtain ⟨e0, e1, e2, e3⟩ := rowR_at l q (List.getElem?_eq_getElem hql)
  obtain ⟨c0, c1, c2, c3⟩ := h.at' q _ (List.getElem?_eq_getElem hql)
  match r, hr with
  | 0, _ => rw [← hj]; exact c0.trans e0.symm
  | 1, _ => rw [← hj]; exact c1.trans e1.symm
  | 2, _ => rw [← hj]; exact c2.trans e2.symm
  | 3, _ => rw [← hj]; exact c3.trans e3.symm
theorem rowR_oneM (l : List Rw) : ∀ u ∈ rowR l, u.oneCell' = true := by
  intro u hu
  unfold rowR at hu
  obtain ⟨x, _, hx⟩ := List.mem_flatMap.1 hu
  simp only [List.mem_cons, List.not_mem_nil, or_false] at hx
  rcases hx with rfl | rfl | rfl | rfl <;> rfl
/-- 'append(a, b...)' of rows, a the call's own and empty, b a slice of rows, nil or not. -/
theorem wpList_append_rsM {ops : Array Oper} {rest : List Oper} {o : Oper} {a : Act} {Q : Exit → Act → World → Prop} {w : World} (hgd : o.guard = none) (s x : Operand)
    (ho : o.op = .call { callee := .builtin .append, args := #[s, x], argTypes := #[25, 25] })
    (base : Nat) (v : Value) (p : Option Addr) (n c b off : Nat) (l : List Rw) (hs : a.eval s = v) (hx : a.eval x = .slice p n c) (hown : w.ownsRow base 42 4 v 0 []) (hsrc : Rs p n c b off l w) (hn : n ≤ 1000000) (hbase : base ≤ w.heap.size)
    (h : ∀ v' w', w'.ownsRow base 42 4 v' n (rowR l) → w.grownBy w' v.ownBlock → (∃ va vc, v' = .slice va n vc) → wpList Try.prog ops Q rest (a.put o.dst v') w') : wpList Try.prog ops Q (o :: rest) a w := by
  obtain ⟨i0, hi, hz0, hz1, hz2⟩ := info_parts info_row
  have hl := hsrc.len
  have shape : ∀ {v' : Value} {w' : World} {ys : List Value}, w'.ownsRow base 42 4 v' n ys → ∃ va vc, v' = .slice va n vc := fun hr => by
    rcases hr.2 with ⟨e1, e0⟩ | ⟨g', cap, cur, e1, _⟩
    · exact ⟨none, 0, by rw [e1, e0]⟩
    · exact ⟨_, _, e1⟩
  cases p with
  | none =>
    have h0 : n = 0 := by
      rcases Nat.eq_zero_or_pos n with e | e
      · exact e
      · have := (hsrc.addr e).1; cases this
    subst h0
    obtain rfl : l = [] := List.length_eq_zero_iff.1 hl
    have hrun : (Builtin.append_ #[25, 25] o.type #[v, .slice none 0 c]).run Try.prog w = .ok v w := by
      rcases hown.2 with ⟨rfl, _⟩ | ⟨g, cap, cur, rfl, _, _, hle, _⟩
      · exact run_append_nothing w _ _ _ 42 i0 Try.underlying25 hi none 0 0 (Nat.le_refl _) _ (Src.ofNil w Try.underlying25 c)
      · exact run_append_nothing w _ _ _ 42 i0 Try.underlying25 hi _ 0 cap (Nat.zero_le _) _ (Src.ofNil w Try.underlying25 c)
    refine wpList_plain hgd fun K hK => ?_
    unfold Oper.wp
    simp [execOp, ho, resolve, invoke, builtin, hs, hx, hrun, Result.andThen]
    exact hK _ _ (h v w hown ⟨rfl, rfl, rfl, Nat.le_refl _, fun _ _ _ => rfl⟩ (shape hown))
  | some ad =>
    refine wpList_append_own w hgd s x 25 ho base 42 i0 _ 4 48 Try.underlying25 hi hz0 hz1 hz2 rfl (by decide) v 0 [] hs hown ad n c (rowR l) hx (by rw [rowR_len, hl]) ?_ (rowR_oneM l) (by unfold maxLen; omega) (by omega) hbase ?_
    · intro j u hj
      have hlt : j < l.length * 4 := by have := (List.getElem?_eq_some_iff.1 hj).1; rwa [rowR_len] at this
      have := (hsrc.addr (by omega)).1
      simp only [Option.some.injEq] at this
      subst this
      exact row_of_rsM hsrc j u hj
    · intro v' w' h1 h2 h3
      rw [Nat.zero_add, List.nil_append] at h1
      exact h v' w' h1 h2 (shape h1)
/-- What own gives. -/
def OwnRM (n : Nat) (l : List Rw) (w : World) (e : Ending) (w' : World) : Prop :=
  ∃ g c, e = .returned (.slice (some ⟨g, 0, none⟩) n c) ∧ w.heap.size ≤ g ∧ Rs (some ⟨g, 0, none⟩) (n + 1) c g 0 (l ++ [markM]) w' ∧ Below w.heap.size w w'
theorem below_grownRM {B : Nat} {w w1 w2 : World} {r : Option Nat} (h : Below B w w1) (hB : B ≤ w1.heap.size) (hg : w1.grownBy w2 r) (hr : ∀ g, r = some g → B ≤ g) : Below B w w2 :=
  h.trans ⟨hg.os, hg.tape, hg.output, hg.size, fun k hk => hg.block k (by omega) (fun e => by have := hr _ e.symm; omega)⟩
set_option maxRecDepth 100000 in
set_option maxHeartbeats 4000000 in
theorem own_anyM {a : Option Addr} {n c b o : Nat} {l : List Rw} {w : World} (h : Rs a n c b o l w) (hn : n ≤ 1100) :
    Calls Try.prog 12 #[.slice a n c] w (OwnRM n l w) := by
  obtain ⟨i0, hi, hz0, hz1, hz2⟩ := info_parts info_row
  have hcap := h.cap
  have hmost := h.most
  have hlen := Lib.hid h.len
  have HZ : Hid ((w.alloc (.cells #[] 42)).ownsRow w.heap.size 42 4 (.slice (some ⟨w.heap.size, 0, none⟩) 0 0) 0 []) := Lib.hid (by
    have := World.ownsRow_made (base := w.heap.size) (e := 42) (size := 4) w #[] 0 (by simp) (by unfold maxLen; omega) (by simp)
    simpa using this)
  have h1 := Lib.hid (h.below (below_alloc w (.cells #[] 42)) (Nat.le_refl _))
  go_enter Try.func12, Try.ntmps12
  have hsz1 : Hid (w.heap.size ≤ (w.alloc (.cells #[] 42)).heap.size) := Lib.hid (by simp)
  go_upto_region 2 with (at_builtin; refine wpList_append_rsM rfl _ _ rfl w.heap.size (.slice (some ⟨w.heap.size, 0, none⟩) 0 0) a n c b o l (by rfl) (by rfl) HZ.out h1.out (by omega) hsz1.out ?_; intro v1 w2 r1 g1 sh1; obtain ⟨va, vc, rfl⟩ := sh1; have r1 := Lib.hid r1; have g1 := Lib.hid g1)
  have G1 : Hid (Below w.heap.size w w2 ∧ w.heap.size ≤ w2.heap.size) := Lib.hid (by
    have g1 := g1.out
    have hz := g1.size
    exact ⟨below_grownRM (below_alloc _ _) (by simp) g1 (fun g e => by simp [Value.ownBlock] at e; omega), by simp at hz; omega⟩)
  clear HZ h h1 g1 hsz1
  have hbase : Hid (w.heap.size ≤ (w2.alloc (.cells #[.string ⟨#[]⟩, .int .u64 0, .int .i64 77, .string ⟨#[]⟩] 42)).heap.size) := Lib.hid (by have := G1.out.2; simp; omega)
  go_wp2_with (at_builtin; refine wpList_append_lies _ rfl _ _ 25 rfl w.heap.size 42 i0 _ 4 48 Try.underlying25 hi hz0 hz1 hz2 rfl (by decide) (.slice va n vc) n (rowR l) (by rfl) (r1.out.alloc _) ⟨w2.heap.size, 0, none⟩ 1 1 [.string ⟨#[]⟩, .int .u64 0, .int .i64 77, .string ⟨#[]⟩] (by rfl) rfl ?d1 ?d2 (by decide) ?d3 ?d4 hbase.out _ rfl ?_)
  case d1 => exact World.news_of_block (heap_alloc_new _ _)
  case d2 => intro u hu; simp only [List.mem_cons, List.not_mem_nil, or_false] at hu; rcases hu with rfl | rfl | rfl | rfl <;> rfl
  case d3 => unfold maxLen; omega
  case d4 => omega
  intro g cap w3 r3 g3 hat hlt
  have G3 : Hid (Below w.heap.size w w3 ∧ w.heap.size ≤ g) := Lib.hid (by
    obtain ⟨s3, s5⟩ := G1.out
    have hlo : ∀ g, (Value.slice va n vc).ownBlock = some g → w.heap.size ≤ g := fun g e => (World.ownsRow.lt r1.out g e).1
    refine ⟨below_grownRM (s3.alloc (by omega) _) (by simp; omega) g3 (fun g e => by have := hlo g e; omega), ?_⟩
    rcases hat with e | e
    · exact hlo g e
    · rw [e]; first | omega | (simp; omega))
  have W3 : Hid (Rs (some ⟨g, 0, none⟩) (n + 1) cap g 0 (l ++ [markM]) w3) := Lib.hid (by
    have hr : w3.ownsRow w.heap.size 42 4 (.slice (some ⟨g, 0, none⟩) (n + 1) cap) (l ++ [markM]).length (rowR (l ++ [markM])) := by
      rw [List.length_append, hlen.out, rowR_snoc]; exact r3
    obtain ⟨a', c', b', hv, hw, _⟩ := rs_of_row hr
    rw [List.length_append, hlen.out] at hv hw
    simp only [Value.slice.injEq] at hv
    obtain ⟨rfl, _, rfl⟩ := hv
    have hb := (hw.addr (by omega)).1
    simp only [Option.some.injEq, Addr.mk.injEq] at hb
    obtain ⟨rfl, _⟩ := hb
    exact hw)
  clear r3 g3 hat r1 G1 hbase
  have hnc : n ≤ cap := by have := W3.out.cap; omega
  have SL := slr_upto (some ⟨g, 0, none⟩) (n + 1) cap n hnc
  go_wp2_with fail
  go_returns
  exact ⟨g, cap, rfl, G3.out.2, W3.out, G3.out.1⟩
open Classical in
set_option maxRecDepth 100000 in
set_option maxHeartbeats 4000000 in
theorem kept_anyM {n c g : Nat} {a2 : Option Addr} {c2 b2 o2 : Nat} {l : List Rw} {w : World} (h : Rs (some ⟨g, 0, none⟩) (n + 1) c g 0 (l ++ [markM]) w) (h2 : Rs a2 n c2 b2 o2 l w) (hn : n ≤ 1100) :
    Calls Try.prog 15 #[.slice (some ⟨g, 0, none⟩) n c, .slice a2 n c2] w fun e w' => e = .returned (.bool true) ∧ Below w.heap.size w w' := by
  have hlen := h2.len
  have hcap := h.cap
  have hmost := h.most
  have hcap2 := h2.cap
  have hmost2 := h2.most
  have ht : Rs (some ⟨g, 0, none⟩) n c g 0 l w := by have := h.upto (k := n) (by omega); rw [← hlen, markR_takeM] at this; rw [← hlen]; exact this
  have SM := Lib.hid (same_rowsB ht h2)
  have hM : Hid (∀ u, Below w.heap.size w u → u.cell? ⟨g, n * 4 + 2, none⟩ = some (.int .i64 77) ∧ g < u.heap.size) := Lib.hid fun u hu => by
    have hw := h.below hu (Nat.le_refl _)
    have := (hw.at' n markM (by rw [← hlen]; exact markR_atM l)).2.2.1
    rw [Nat.zero_add] at this
    exact ⟨this, (hw.addr (by omega)).2⟩
  have SL : ∀ u, (Instr.slice 25 (.slice (some ⟨g, 0, none⟩) n c) none (some (.int .i64 ((n : Int) + 1))) none).run Try.prog u = .ok (.slice (some ⟨g, 0, none⟩) (n + 1) c) u := fun u => by
    have := slr_upto (some ⟨g, 0, none⟩) n c (n + 1) hcap u
    simpa using this
  have h := Lib.hid h
  have h2 := Lib.hid h2
  clear hlen ht
  go_enter Try.func15, Try.ntmps15
  go_wp2_with fail
  refine SM.out.mono ?_
  rintro e V1 ⟨rfl, q1⟩
  obtain ⟨m1, m2⟩ := hM.out V1 q1
  clear SM
  go_wp2_with fail
  go_returns
  exact ⟨rfl, q1⟩
end Go.Proofs.Ytkkegdhnkefogaa
