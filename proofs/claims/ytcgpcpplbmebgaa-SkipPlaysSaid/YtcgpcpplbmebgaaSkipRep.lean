/-
  How a skip list lies in memory: its start, its nodes, the links of each level. No condition.
-/
import Derived.Test.YtcgpcpplbmebgaaSkipMath
import Derived.Laws.NewBlocks
namespace Go.Proofs.Ytcgpcpplbmebgaa
open Go.RowKit
/-- A node: its row, its height, the block it lies in. -/
structure Nd where
  row : Rw
  hgt : Nat
  blk : Nat
/-- The first of some nodes that is higher than h. -/
def nxt (h : Nat) : List Nd → Option Addr
  | [] => none
  | x :: r => if h < x.hgt then some ⟨x.blk, 0, none⟩ else nxt h r
theorem nxt_hit {h : Nat} {x : Nd} (hx : h < x.hgt) (r : List Nd) : nxt h (x :: r) = some ⟨x.blk, 0, none⟩ := by unfold nxt; rw [if_pos hx]
theorem nxt_low {h : Nat} : ∀ {a : List Nd}, (∀ x ∈ a, x.hgt ≤ h) → ∀ r, nxt h (a ++ r) = nxt h r
  | [], _, _ => rfl
  | x :: a, ha, r => by
    show (if h < x.hgt then some ⟨x.blk, 0, none⟩ else nxt h (a ++ r)) = _
    rw [if_neg (by have := ha x (by simp); omega)]
    exact nxt_low (fun y hy => ha y (List.mem_cons_of_mem _ hy)) r
theorem nxt_none {h : Nat} {a : List Nd} (ha : ∀ x ∈ a, x.hgt ≤ h) : nxt h a = none := by
  have := nxt_low ha []
  rwa [List.append_nil] at this
theorem nd_split (h : Nat) : ∀ l : List Nd, (∀ x ∈ l, x.hgt ≤ h) ∨ ∃ a x r, l = a ++ x :: r ∧ (∀ y ∈ a, y.hgt ≤ h) ∧ h < x.hgt
  | [] => .inl (by simp)
  | x :: r => by
    by_cases hx : h < x.hgt
    · exact .inr ⟨[], x, r, rfl, by simp, hx⟩
    · rcases nd_split h r with h1 | ⟨a, y, r', rfl, h2, h3⟩
      · exact .inl fun y hy => by
          rcases List.mem_cons.1 hy with rfl | hy
          · omega
          · exact h1 y hy
      · refine .inr ⟨x :: a, y, r', rfl, fun z hz => ?_, h3⟩
        rcases List.mem_cons.1 hz with rfl | hz
        · omega
        · exact h2 z hz
/-- Where the link of level h lies behind some nodes. -/
def lnk (p : Nat) (pre : List Nd) (h : Nat) : Addr := match pre.getLast? with | none => ⟨p, h, none⟩ | some x => ⟨x.blk, 4 + h, none⟩
theorem lnk_nil (p h : Nat) : lnk p [] h = ⟨p, h, none⟩ := rfl
theorem lnk_snoc (p h : Nat) (a : List Nd) (x : Nd) : lnk p (a ++ [x]) h = ⟨x.blk, 4 + h, none⟩ := by unfold lnk; simp
theorem lnk_form (p : Nat) (pre : List Nd) : ∃ b o, (∀ h, lnk p pre h = ⟨b, o + h, none⟩) ∧ lnk p pre 0 = ⟨b, o, none⟩ := by
  unfold lnk
  cases pre.getLast? with
  | none => exact ⟨p, 0, fun h => by simp, rfl⟩
  | some x => exact ⟨x.blk, 4, fun h => rfl, rfl⟩
/-- The last of them is higher than h, or there is none. -/
def High (h : Nat) (pre : List Nd) : Prop := pre = [] ∨ ∃ a x, pre = a ++ [x] ∧ h < x.hgt
def rowsN (ns : List Nd) : List Rw := ns.map (·.row)
def hgtsN (ns : List Nd) : List Nat := ns.map (·.hgt)
/-- A block of cells of that type. -/
def Typed (w : World) (b : Nat) (T : TypeId) : Prop := ∃ cs, w.heap[b]? = some (.cells cs T (0, 0))
theorem Typed.keep {w w' : World} {b : Nat} {T : TypeId} (h : Typed w b T) (e : w'.heap[b]? = w.heap[b]?) : Typed w' b T := by
  obtain ⟨cs, hc⟩ := h
  exact ⟨cs, e.trans hc⟩
theorem Typed.set {w : World} {b : Nat} {T : TypeId} (h : Typed w b T) (g i : Nat) (v : Value) : Typed (w.setCell ⟨g, i, none⟩ v) b T := by
  obtain ⟨cs, hc⟩ := h
  by_cases e : b = g
  · subst e; exact ⟨_, heap_setCell_same _ _ _ _ _ _ hc⟩
  · exact ⟨cs, (heap_setCell_other _ _ _ _ e).trans hc⟩
/-- The list in block p is these nodes. -/
structure SkA (p : Nat) (ns : List Nd) (w : World) : Prop where
  sort : SortedR (rowsN ns)
  hgt : ∀ x ∈ ns, 1 ≤ x.hgt ∧ x.hgt ≤ 12
  small : ∀ x ∈ ns, x.row.key.size ≤ 281474976710656 ∧ x.row.val.size ≤ 281474976710656 ∧ x.row.seq ≤ 18446744073709551615
  nodup : (ns.map (·.blk)).Nodup
  apart : ∀ x ∈ ns, x.blk ≠ p
  first : ∀ h, h < 12 → w.cell? ⟨p, h, none⟩ = some (.pointer (nxt h ns))
  many : w.cell? ⟨p, 12, none⟩ = some (.int .i64 (ns.length : Int))
  top : w.cell? ⟨p, 13, none⟩ = some (.int .i64 (topH (hgtsN ns) : Int))
  frz : ∀ o, w.frozen? ⟨p, o, none⟩ = false
  node : ∀ x ∈ ns, w.cell? ⟨x.blk, 0, none⟩ = some (.string x.row.key) ∧ w.cell? ⟨x.blk, 1, none⟩ = some (.int .u64 (x.row.seq : Int)) ∧ w.cell? ⟨x.blk, 2, none⟩ = some (.int .i64 x.row.kind) ∧ w.cell? ⟨x.blk, 3, none⟩ = some (.string x.row.val)
  link : ∀ a x r, ns = a ++ x :: r → ∀ h, h < x.hgt → w.cell? ⟨x.blk, 4 + h, none⟩ = some (.pointer (nxt h r))
  nfrz : ∀ x ∈ ns, ∀ o, w.frozen? ⟨x.blk, o, none⟩ = false
  typ : Typed w p 29
  ntyp : ∀ x ∈ ns, Typed w x.blk 93
theorem SkA.lt {p : Nat} {ns : List Nd} {w : World} (h : SkA p ns w) : p < w.heap.size := World.block_lt_of_cell? _ _ h.many
theorem SkA.nlt {p : Nat} {ns : List Nd} {w : World} (h : SkA p ns w) {x : Nd} (hx : x ∈ ns) : x.blk < w.heap.size := World.block_lt_of_cell? _ _ (h.node x hx).1
theorem cell_keep {w w' : World} {b : Nat} (h : w'.heap[b]? = w.heap[b]?) (o : Nat) : w'.cell? ⟨b, o, none⟩ = w.cell? ⟨b, o, none⟩ := by unfold World.cell?; rw [h]
theorem frozen_keep {w w' : World} {b : Nat} (h : w'.heap[b]? = w.heap[b]?) (o : Nat) : w'.frozen? ⟨b, o, none⟩ = w.frozen? ⟨b, o, none⟩ := by unfold World.frozen?; rw [h]
theorem SkA.keep {p : Nat} {ns : List Nd} {w w' : World} (h : SkA p ns w) (hp : w'.heap[p]? = w.heap[p]?) (hn : ∀ x ∈ ns, w'.heap[x.blk]? = w.heap[x.blk]?) : SkA p ns w' where
  sort := h.sort
  hgt := h.hgt
  small := h.small
  nodup := h.nodup
  apart := h.apart
  first := fun l hl => (cell_keep hp l).trans (h.first l hl)
  many := (cell_keep hp 12).trans h.many
  top := (cell_keep hp 13).trans h.top
  frz := fun o => (frozen_keep hp o).trans (h.frz o)
  node := fun x hx => by
    have e := cell_keep (hn x hx)
    rw [e, e, e, e]; exact h.node x hx
  link := fun a x r e l hl => (cell_keep (hn x (by rw [e]; simp)) _).trans (h.link a x r e l hl)
  nfrz := fun x hx o => (frozen_keep (hn x hx) o).trans (h.nfrz x hx o)
  typ := h.typ.keep hp
  ntyp := fun x hx => (h.ntyp x hx).keep (hn x hx)
theorem SkA.below {p B : Nat} {ns : List Nd} {w w' : World} (h : SkA p ns w) (hb : Below B w w') (hB : ∀ b, (b = p ∨ ∃ x ∈ ns, b = x.blk) → b < B) : SkA p ns w' :=
  h.keep (hb.block p (hB p (.inl rfl))) fun x hx => hb.block _ (hB _ (.inr ⟨x, hx, rfl⟩))
theorem SkA.grow {p : Nat} {ns : List Nd} {w w' : World} (h : SkA p ns w) (hb : Below w.heap.size w w') : SkA p ns w' :=
  h.below hb fun b hb' => by rcases hb' with rfl | ⟨x, hx, rfl⟩; exact h.lt; exact h.nlt hx
/-- The link behind some first nodes. -/
theorem SkA.at {p : Nat} {ns pre rest : List Nd} {w : World} (h : SkA p ns w) (e : ns = pre ++ rest) {l : Nat} (hl : l < 12) (hh : High l pre) : w.cell? (lnk p pre l) = some (.pointer (nxt l rest)) := by
  rcases hh with rfl | ⟨a, x, rfl, hx⟩
  · rw [lnk_nil]
    rw [List.nil_append] at e
    rw [← e]; exact h.first l hl
  · rw [lnk_snoc]
    exact h.link a x rest (by rw [e]; simp) l hx
/-- The nodes ahead of a place, and the others. -/
def plN (ns : List Nd) (k : ByteArray) (q : Nat) : Nat := plc (rowsN ns) k q
theorem front_ahd {ns : List Nd} {k : ByteArray} {q : Nat} {x : Nd} (hx : x ∈ ns.take (plN ns k q)) : ahd x.row k q = true := by
  refine plc_front (l := rowsN ns) ?_
  unfold rowsN
  rw [← List.map_take]
  exact List.mem_map.2 ⟨x, hx, rfl⟩
theorem back_ahd {ns : List Nd} (hs : SortedR (rowsN ns)) {k : ByteArray} {q : Nat} {x : Nd} (hx : x ∈ ns.drop (plN ns k q)) : ahd x.row k q = false := by
  refine plc_back (l := rowsN ns) hs ?_
  unfold rowsN
  rw [← List.map_drop]
  exact List.mem_map.2 ⟨x, hx, rfl⟩
theorem plN_le (ns : List Nd) (k : ByteArray) (q : Nat) : plN ns k q ≤ ns.length := by
  have := plc_le (rowsN ns) k q
  unfold rowsN at this
  rwa [List.length_map] at this
theorem eq_node (q : Option Addr) (w : World) : (binOp .eql 25 (.pointer q) (.pointer none)).run Try.prog w = .ok (.bool q.isNone) w := run_eql_pointer_nil _ _ _ (by kernel_rfl)
theorem ne_node (q : Option Addr) (w : World) : (binOp .neq 25 (.pointer q) (.pointer none)).run Try.prog w = .ok (.bool (!q.isNone)) w := run_neq_pointer_nil _ _ _ (by kernel_rfl)
theorem eq_list (q : Option Addr) (w : World) : (binOp .eql 24 (.pointer q) (.pointer none)).run Try.prog w = .ok (.bool q.isNone) w := run_eql_pointer_nil _ _ _ (by kernel_rfl)
end Go.Proofs.Ytcgpcpplbmebgaa
