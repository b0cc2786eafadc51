/-
  The contract of the program's Decode: the edit that the document reads, or ErrForm. Condition: a text that came in.
-/
import Derived.Test.YtkkedofbnmjgeaaEditMeta
import Derived.Test.YtkkedofbnmjgeaaEditMake
import Derived.Test.YtkkedofbnmjgeaaHeld
import Derived.Test.YtkkedofbnmjgeaaHeldE
import Derived.Deep.AppendLies
namespace Go.Proofs.Ytkkedofbnmjgeaa
set_option maxRecDepth 100000
open Go Go.RowKit
theorem five_put {p : Nat} {z0 z1 z2 z3 z4 : Value} {t : TypeId} {w : World} (h : w.heap[p]? = some (.cells #[z0, z1, z2, z3, z4] t (0, 0))) (y0 y1 y2 y3 y4 : Value) : (((((w.setCell ⟨p, 0, none⟩ y0).setCell ⟨p, 1, none⟩ y1).setCell ⟨p, 2, none⟩ y2).setCell ⟨p, 3, none⟩ y3).setCell ⟨p, 4, none⟩ y4).heap[p]? = some (.cells #[y0, y1, y2, y3, y4] t (0, 0)) :=
  (heap_setCell_same _ _ _ _ _ _ ((heap_setCell_same _ _ _ _ _ _ ((heap_setCell_same _ _ _ _ _ _ ((heap_setCell_same _ _ _ _ _ _ ((heap_setCell_same _ _ _ _ _ _ h).trans rfl)).trans rfl)).trans rfl)).trans rfl)).trans rfl
theorem five_cells {p : Nat} {z0 z1 z2 z3 z4 : Value} {t : TypeId} {w : World} (h : w.heap[p]? = some (.cells #[z0, z1, z2, z3, z4] t (0, 0))) : w.cell? ⟨p, 0, none⟩ = some z0 ∧ w.cell? ⟨p, 1, none⟩ = some z1 ∧ w.cell? ⟨p, 2, none⟩ = some z2 ∧ w.cell? ⟨p, 3, none⟩ = some z3 ∧ w.cell? ⟨p, 4, none⟩ = some z4 := by
  simp only [World.cell?, h]
  exact ⟨rfl, rfl, rfl, rfl, rfl⟩
theorem five_frozen {p : Nat} {z0 z1 z2 z3 z4 : Value} {t : TypeId} {w : World} (h : w.heap[p]? = some (.cells #[z0, z1, z2, z3, z4] t (0, 0))) : ∀ o, w.frozen? ⟨p, o, none⟩ = false := fun o => by simp [World.frozen?, h]
theorem five_below {p : Nat} {w w' : World} (hb : Below w.heap.size w w') (hp : w.heap.size ≤ p) (y0 y1 y2 y3 y4 : Value) : Below w.heap.size w (((((w'.setCell ⟨p, 0, none⟩ y0).setCell ⟨p, 1, none⟩ y1).setCell ⟨p, 2, none⟩ y2).setCell ⟨p, 3, none⟩ y3).setCell ⟨p, 4, none⟩ y4) :=
  ((((hb.setCell (p := ⟨p, 0, none⟩) hp _).setCell (p := ⟨p, 1, none⟩) hp _).setCell (p := ⟨p, 2, none⟩) hp _).setCell (p := ⟨p, 3, none⟩) hp _).setCell (p := ⟨p, 4, none⟩) hp _
theorem five_else {p k : Nat} {w : World} (hk : k ≠ p) (y0 y1 y2 y3 y4 : Value) : (((((w.setCell ⟨p, 0, none⟩ y0).setCell ⟨p, 1, none⟩ y1).setCell ⟨p, 2, none⟩ y2).setCell ⟨p, 3, none⟩ y3).setCell ⟨p, 4, none⟩ y4).heap[k]? = w.heap[k]? :=
  (heap_setCell_other _ _ _ _ hk).trans ((heap_setCell_other _ _ _ _ hk).trans ((heap_setCell_other _ _ _ _ hk).trans ((heap_setCell_other _ _ _ _ hk).trans (heap_setCell_other _ _ _ _ hk))))
theorem five_size {p : Nat} {w : World} (y0 y1 y2 y3 y4 : Value) : w.heap.size ≤ (((((w.setCell ⟨p, 0, none⟩ y0).setCell ⟨p, 1, none⟩ y1).setCell ⟨p, 2, none⟩ y2).setCell ⟨p, 3, none⟩ y3).setCell ⟨p, 4, none⟩ y4).heap.size :=
  (((((Below.refl 0 w).setCell (p := ⟨p, 0, none⟩) (Nat.zero_le _) y0).setCell (p := ⟨p, 1, none⟩) (Nat.zero_le _) y1).setCell (p := ⟨p, 2, none⟩) (Nat.zero_le _) y2).setCell (p := ⟨p, 3, none⟩) (Nat.zero_le _) y3 |>.setCell (p := ⟨p, 4, none⟩) (Nat.zero_le _) y4).size
/-- The lists stand behind a store into a block below them. -/
theorem EdM.put {B p N : Nat} {e : Ed} {vg va : Value} {w : World} (h : EdM B p e vg va w) (hN : N < B) (y0 y1 y2 y3 y4 : Value) : ∃ hg ha : Hd, vg = hdV hg ∧ va = hdV ha ∧ EdAt e hg ha (((((w.setCell ⟨N, 0, none⟩ y0).setCell ⟨N, 1, none⟩ y1).setCell ⟨N, 2, none⟩ y2).setCell ⟨N, 3, none⟩ y3).setCell ⟨N, 4, none⟩ y4) := by
  obtain ⟨hg, ha, rfl, rfl, k, b1, b2⟩ := h.at
  refine ⟨hg, ha, rfl, rfl, ⟨k.gone.sl.keep (fun h0 => five_else (by have := b1 h0; omega) _ _ _ _ _) (five_size _ _ _ _ _), k.gone.none'⟩, k.added.sl.keep (fun h0 => five_else (by have := b2 h0; omega) _ _ _ _ _) (five_size _ _ _ _ _), k.added.none'⟩
abbrev zE : Obj := .cells #[.int .u64 0, .int .u64 0, .int .u64 0, .slice none 0 0, .slice none 0 0] 30 (0, 0)
abbrev zEV : Value := .agg #[.int .u64 0, .int .u64 0, .int .u64 0, .slice none 0 0, .slice none 0 0]
/-- What Decode answers. -/
def DecD (l : List UInt8) (r : Ending) (w' : World) : Prop :=
  (DecP l ∧ ∃ hg ha, r = .returned (.tuple #[edV (decRaw l) hg ha, .int .i64 0]) ∧ EdAt (decRaw l) hg ha w') ∨ (¬ DecP l ∧ r = .returned (.tuple #[zEV, .int .i64 7]))
/-- Decode under way. -/
structure DcI (p : Nat) (l : List UInt8) (o : Option Nat) (e : Ed) (vg va : Value) (w wr : World) : Prop where
  m : EdM (p + 1) p e vg va wr
  r : RO wr (w.heap.size + 1) l o
  z : wr.heap[w.heap.size]? = some zE
  f : Below w.heap.size w wr
  lo : w.heap.size + 1 < p
theorem DcI.call {p : Nat} {l : List UInt8} {o o' : Option Nat} {e : Ed} {vg va : Value} {w wr u : World} (h : DcI p l o e vg va w wr) (hb : But (w.heap.size + 1) wr u) (hr : RO u (w.heap.size + 1) l o') : DcI p l o' e vg va w u := by
  have lo := h.lo
  have hB := h.m.big
  have hf := h.f.size
  exact ⟨h.m.but hb (by omega) (by omega), hr, (hb.block _ (by omega) (by omega)).trans h.z, h.f.trans (hb.below (by omega) hf), lo⟩
theorem DcI.below {p : Nat} {l : List UInt8} {o : Option Nat} {e : Ed} {vg va : Value} {w wr u : World} (h : DcI p l o e vg va w wr) (hb : Below wr.heap.size wr u) : DcI p l o e vg va w u :=
  ⟨h.m.below hb, h.r.below hb h.r.lt, (hb.block _ (by have := h.lo; have := h.m.big; omega)).trans h.z, below_of h.f hb, h.lo⟩
theorem DcI.fr {p : Nat} {l : List UInt8} {o : Option Nat} {e e' : Ed} {vg va vg' va' : Value} {w wr u : World} (h : DcI p l o e vg va w wr) (hf : Fr (p + 1) p wr u) (hm : EdM (p + 1) p e' vg' va' u) : DcI p l o e' vg' va' w u := by
  have lo := h.lo
  exact ⟨hm, h.r.keep (hf.block _ (by omega) (by omega)), (hf.block _ (by omega) (by omega)).trans h.z, h.f.trans (hf.below (by omega) (by omega)), lo⟩
theorem DcI.addG {p : Nat} {l : List UInt8} {o : Option Nat} {e : Ed} {vg va v' : Value} {w C w1 : World} {tmp : Obj} {x : Gn} (h : DcI p l o e vg va w C) (hown : w1.ownsRow (p + 1) 54 2 v' (e.gone.length + 1) (e.gone.flatMap cellsG ++ cellsG x)) (hgrow : (C.alloc tmp).grownBy w1 vg.ownBlock) :
    DcI p l o ⟨e.log, e.next, e.seq, e.gone ++ [x], e.added⟩ v' va w (w1.setCell ⟨p, 3, none⟩ v') ∧ w1.cell? ⟨p, 3, none⟩ = some vg ∧ w1.frozen? ⟨p, 3, none⟩ = false := by
  obtain ⟨a1, a2, a3, a4⟩ := h.m.addG hown hgrow
  exact ⟨h.fr a2 a1, a3, a4⟩
theorem DcI.addA {p : Nat} {l : List UInt8} {o : Option Nat} {e : Ed} {vg va v' : Value} {w C w1 : World} {tmp : Obj} {x : Pl} (h : DcI p l o e vg va w C) (hown : w1.ownsRow (p + 1) 52 8 v' (e.added.length + 1) (e.added.flatMap cellsP ++ cellsP x)) (hgrow : (C.alloc tmp).grownBy w1 va.ownBlock) :
    DcI p l o ⟨e.log, e.next, e.seq, e.gone, e.added ++ [x]⟩ vg v' w (w1.setCell ⟨p, 4, none⟩ v') ∧ w1.cell? ⟨p, 4, none⟩ = some va ∧ w1.frozen? ⟨p, 4, none⟩ = false := by
  obtain ⟨a1, a2, a3, a4⟩ := h.m.addA hown hgrow
  exact ⟨h.fr a2 a1, a3, a4⟩
theorem DcI.new {l : List UInt8} {o : Option Nat} (a b c : Nat) {w u : World} (hr : RO u (w.heap.size + 1) l o) (hz : u.heap[w.heap.size]? = some zE) (hf : Below w.heap.size w u) : DcI u.heap.size l o ⟨a, b, c, [], []⟩ (.slice none 0 0) (.slice none 0 0) w (u.alloc (edC a b c (.slice none 0 0) (.slice none 0 0))) := by
  have hlt := hr.lt
  exact ⟨EdM.new a b c u, hr.below (below_alloc u _) hlt, (Below.heap_alloc u _ _ (by omega)).trans hz, hf.alloc hf.size _, hlt⟩
set_option maxRecDepth 100000 in
set_option maxHeartbeats 8000000 in
theorem decode_any (s : ByteArray) (hs : s.size ≤ reachBytes) (w : World) : Calls Try.prog 20 #[.string s] w fun r w' => DecD s.data.toList r w' ∧ Below w.heap.size w w' := by
  obtain ⟨l, hl⟩ := named s.data.toList
  rw [← hl.out]
  have hlen : Hid (l.length = s.size) := Lib.hid (by rw [hl.out, Array.length_toList]; rfl)
  have CN : Hid (∀ u r, RO u (w.heap.size + 1) l r → Calls Try.prog 37 #[.pointer (some ⟨w.heap.size + 1, 0, none⟩)] u fun e w' => e = .returned (.int .u64 ((dnum l r mostN).1 : Int)) ∧ RO w' (w.heap.size + 1) l (dnum l r mostN).2 ∧ But (w.heap.size + 1) u w') := Lib.hid (fun u r hu => number_o hu)
  have CU : Hid (∀ u r, RO u (w.heap.size + 1) l r → Calls Try.prog 38 #[.pointer (some ⟨w.heap.size + 1, 0, none⟩), .int .i64 256] u fun e w' => e = .returned (.int .i64 ((dnum l r 256).1 : Int)) ∧ RO w' (w.heap.size + 1) l (dnum l r 256).2 ∧ But (w.heap.size + 1) u w') := Lib.hid (fun u r hu => by
    have hh := upto_o hu 256 (by omega)
    rw [show ((256 : Nat) : Int) = 256 by decide] at hh
    exact hh)
  have CL : Hid (∀ u r, RO u (w.heap.size + 1) l r → Calls Try.prog 39 #[.pointer (some ⟨w.heap.size + 1, 0, none⟩)] u fun e w' => e = .returned (.int .i64 ((dnum l r 3).1 : Int)) ∧ RO w' (w.heap.size + 1) l (dnum l r 3).2 ∧ But (w.heap.size + 1) u w') := Lib.hid (fun u r hu => level_o hu)
  have CM : Hid (∀ u r, RO u (w.heap.size + 1) l r → Calls Try.prog 40 #[.pointer (some ⟨w.heap.size + 1, 0, none⟩)] u fun e w' => e = .returned (.agg #[.int .u64 ((dmeta l r).1.num : Int), .int .i64 (dmeta l r).1.size, .int .i64 (dmeta l r).1.rows, .string (dmeta l r).1.fst, .string (dmeta l r).1.lst, .int .u64 ((dmeta l r).1.least : Int), .int .u64 ((dmeta l r).1.gr : Int)]) ∧ RO w' (w.heap.size + 1) l (dmeta l r).2 ∧ But (w.heap.size + 1) u w') := Lib.hid (fun u r hu => meta_o hu)
  have R0 : Hid (RO ((w.alloc zE).alloc (.cells #[.string s, .bool false] 68)) (w.heap.size + 1) l (some 0)) := Lib.hid (by
    have hn : ((w.alloc zE).alloc (.cells #[.string s, .bool false] 68)).heap[w.heap.size + 1]? = some (.cells #[.string s, .bool false] 68 (0, 0)) := by
      have := heap_alloc_new (w.alloc zE) (.cells #[.string s, .bool false] 68)
      rwa [World.size_alloc] at this
    refine ⟨s, false, ⟨?_, ?_, ?_, ?_⟩, hs, Nat.zero_le _, by rw [List.drop_zero, hl.out], rfl⟩
    · simp only [World.cell?, hn]; rfl
    · simp only [World.cell?, hn]; rfl
    · unfold World.frozen?; rw [hn]; rfl
    · unfold World.frozen?; rw [hn]; rfl)
  have Z0 : Hid (((w.alloc zE).alloc (.cells #[.string s, .bool false] 68)).heap[w.heap.size]? = some zE) := Lib.hid (((Below.heap_alloc _ _ _ (by rw [World.size_alloc]; omega))).trans (heap_alloc_new _ _))
  have W0 : Hid (Below w.heap.size w ((w.alloc zE).alloc (.cells #[.string s, .bool false] 68))) := Lib.hid ((below_alloc w _).alloc (by simp) _)
  have K0 : Hid (∀ u, But (w.heap.size + 1) ((w.alloc zE).alloc (.cells #[.string s, .bool false] 68)) u → u.heap[w.heap.size]? = some zE ∧ Below w.heap.size w u) := Lib.hid (fun u hu => ⟨(hu.block _ (by rw [World.size_alloc, World.size_alloc]; omega) (by omega)).trans Z0.out, W0.out.trans (hu.below (by omega) (by rw [World.size_alloc, World.size_alloc]; omega))⟩)
  obtain ⟨r1, h1⟩ := named (dnum l (some 0) mostN)
  have C1 : Hid (∀ u, RO u (w.heap.size + 1) l (some 0) → Calls Try.prog 37 #[.pointer (some ⟨w.heap.size + 1, 0, none⟩)] u fun e w' => e = .returned (.int .u64 (r1.1 : Int)) ∧ RO w' (w.heap.size + 1) l r1.2 ∧ But (w.heap.size + 1) u w') := Lib.hid (fun u hu => by rw [h1.out]; exact CN.out u _ hu)
  obtain ⟨r2, h2⟩ := named (dnum l r1.2 mostN)
  have C2 : Hid (∀ u, RO u (w.heap.size + 1) l r1.2 → Calls Try.prog 37 #[.pointer (some ⟨w.heap.size + 1, 0, none⟩)] u fun e w' => e = .returned (.int .u64 (r2.1 : Int)) ∧ RO w' (w.heap.size + 1) l r2.2 ∧ But (w.heap.size + 1) u w') := Lib.hid (fun u hu => by rw [h2.out]; exact CN.out u _ hu)
  obtain ⟨r3, h3⟩ := named (dnum l r2.2 mostN)
  have C3 : Hid (∀ u, RO u (w.heap.size + 1) l r2.2 → Calls Try.prog 37 #[.pointer (some ⟨w.heap.size + 1, 0, none⟩)] u fun e w' => e = .returned (.int .u64 (r3.1 : Int)) ∧ RO w' (w.heap.size + 1) l r3.2 ∧ But (w.heap.size + 1) u w') := Lib.hid (fun u hu => by rw [h3.out]; exact CN.out u _ hu)
  obtain ⟨r4, h4⟩ := named (dnum l r3.2 256)
  have C4 : Hid (∀ u, RO u (w.heap.size + 1) l r3.2 → Calls Try.prog 38 #[.pointer (some ⟨w.heap.size + 1, 0, none⟩), .int .i64 256] u fun e w' => e = .returned (.int .i64 (r4.1 : Int)) ∧ RO w' (w.heap.size + 1) l r4.2 ∧ But (w.heap.size + 1) u w') := Lib.hid (fun u hu => by rw [h4.out]; exact CU.out u _ hu)
  have q4 : r4.1 ≤ 256 := by rw [h4.out]; exact dnum_le _ _ _
  have e1 : Hid (dec1 l = r1) := Lib.hid (by unfold dec1; rw [h1.out])
  have e2 : Hid (dec2 l = r2) := Lib.hid (by unfold dec2; rw [e1.out, h2.out])
  have e3 : Hid (dec3 l = r3) := Lib.hid (by unfold dec3; rw [e2.out, h3.out])
  have e4 : Hid (dec4 l = r4) := Lib.hid (by unfold dec4; rw [e3.out, h4.out])
  have e5 : Hid (dec5 l = many (dgone l) r4.1 r4.2) := Lib.hid (by unfold dec5; rw [e4.out])
  replace h1 := Lib.hid trivial
  replace h2 := Lib.hid trivial
  replace h3 := Lib.hid trivial
  replace h4 := Lib.hid trivial
  obtain ⟨n1, o1⟩ := r1
  obtain ⟨n2, o2⟩ := r2
  obtain ⟨n3, o3⟩ := r3
  obtain ⟨n4, o4⟩ := r4
  simp only at C1 C2 C3 C4 q4 e5
  obtain ⟨ti, hi, hy0, hy1, hy2⟩ := info_parts infoG
  obtain ⟨tj, hj, hj0, hj1, hj2⟩ := info_parts infoP
  go_enter Try.func20, Try.ntmps20
  go_wp2_with (first
    | (go_at_call 37; ((with_reducible refine (C1.out _ R0.out).mono ?_); rintro r w1 ⟨rfl, hr, hb⟩; have R1 := Lib.hid hr; have B1 := Lib.hid hb; clear hr hb))
    | (go_at_call 37; ((with_reducible refine (C2.out _ R1.out).mono ?_); rintro r w2 ⟨rfl, hr, hb⟩; have R2 := Lib.hid hr; have B2 := Lib.hid (B1.out.trans hb); clear hr hb))
    | (go_at_call 37; ((with_reducible refine (C3.out _ R2.out).mono ?_); rintro r w3 ⟨rfl, hr, hb⟩; have R3 := Lib.hid hr; have B3 := Lib.hid (B2.out.trans hb); clear hr hb; have D3 := Lib.hid (DcI.new (l := l) (o := o3) n1 n2 n3 R3.out (K0.out _ B3.out).1 (K0.out _ B3.out).2)))
    | (go_at_call 38; ((with_reducible refine (C4.out _ D3.out.r).mono ?_); rintro r w4 ⟨rfl, hr, hb⟩; have D4 := Lib.hid (D3.out.call hb hr); clear hr hb)))
  clear C1 C2 C3 C4 R0 R1 R2 R3 B1 B2 B3 D3 Z0 W0 K0
  have D40 : Hid (DcI w3.heap.size l (many (dgone l) 0 o4).2 ⟨n1, n2, n3, (many (dgone l) 0 o4).1, []⟩ (.slice none 0 0) (.slice none 0 0) w w4) := D4
  clear D4
  have hp3 := w3.heap.size
  obtain ⟨p, hpn⟩ := named w3.heap.size
  rw [← hpn.out] at D40
  rw [← hpn.out]
  replace hpn := Lib.hid trivial
  go_loopw [13] (fun i wr => ∃ j : Nat, j ≤ n4 ∧ i = .int .i64 (j : Int) ∧ ∃ vg, Hid (DcI p l (many (dgone l) j o4).2 ⟨n1, n2, n3, (many (dgone l) j o4).1, []⟩ vg (.slice none 0 0) w wr)) (fun i _ => n4 - (intOf i).toNat)
  case atStart => exact ⟨0, Nat.zero_le _, rfl, _, D40⟩
  case round =>
    obtain ⟨j, hj, rfl, vg, hI⟩ := hrel
    by_cases hlt : j < n4
    · have i0 : (j : Int) < (n4 : Int) := by omega
      have hGl : Hid ((many (dgone l) j o4).1.length = j) := Lib.hid (many_len _ _ _)
      have hnext : Hid (many (dgone l) (j + 1) o4 = ((many (dgone l) j o4).1 ++ [(dgone l (many (dgone l) j o4).2).1], (dgone l (many (dgone l) j o4).2).2)) := Lib.hid rfl
      obtain ⟨⟨G, o⟩, hM⟩ := named (many (dgone l) j o4)
      rw [← hM.out] at hI hGl hnext
      simp only at hI hGl hnext
      replace hM := Lib.hid trivial
      obtain ⟨⟨a1, b1⟩, h1⟩ := named (dnum l o 3)
      obtain ⟨⟨a2, b2⟩, h2⟩ := named (dnum l b1 mostN)
      have G1 : Hid (∀ u, RO u (w.heap.size + 1) l o → Calls Try.prog 39 #[.pointer (some ⟨w.heap.size + 1, 0, none⟩)] u fun e w' => e = .returned (.int .i64 (a1 : Int)) ∧ RO w' (w.heap.size + 1) l b1 ∧ But (w.heap.size + 1) u w') := Lib.hid (fun u hu => by have := CL.out u o hu; rw [← h1.out] at this; exact this)
      have G2 : Hid (∀ u, RO u (w.heap.size + 1) l b1 → Calls Try.prog 37 #[.pointer (some ⟨w.heap.size + 1, 0, none⟩)] u fun e w' => e = .returned (.int .u64 (a2 : Int)) ∧ RO w' (w.heap.size + 1) l b2 ∧ But (w.heap.size + 1) u w') := Lib.hid (fun u hu => by have := CN.out u b1 hu; rw [← h2.out] at this; exact this)
      have hdg : Hid (dgone l o = (⟨(a1 : Int), a2⟩, b2)) := Lib.hid (by unfold dgone; simp only; rw [← h1.out]; simp only; rw [← h2.out])
      rw [hdg.out] at hnext
      simp only at hnext
      replace h1 := Lib.hid trivial
      replace h2 := Lib.hid trivial
      obtain ⟨s1, s2, s3, rfl⟩ := own_shape hI.out.m.og
      have D5 : Hid (DcI p l o ⟨n1, n2, n3, G, []⟩ (.slice s1 s2 s3) (.slice none 0 0) w wr.drew) := Lib.hid (hI.out.below (Below.refl _ _).drew)
      have S0 : Hid (wr.drew.cell? ⟨p, 3, none⟩ = some (.slice s1 s2 s3)) := Lib.hid D5.out.m.cells.2.2.2.1
      have hbd : Hid (G.length + 1 ≤ maxLen ∧ (G.length + 1) * 80 ≤ 140737488355328 ∧ (G.length + 1) * 16 ≤ 140737488355328) := Lib.hid (bound_app (by rw [hGl.out]; omega))
      clear hdg CN CU CL CM hGl
      go_upto_region 5 with fail
      refine wp_region_E 8 (S := (fun u => u.cell? ⟨p, 3, none⟩ = some (.slice s1 s2 s3))) (by kernel_rfl) (S0.out) (fun hHeld => ?_)
      refine heldE_take (i := 0) (v := ?_) rfl (by kernel_rfl) (by kernel_rfl) (by kernel_rfl) (fun _ _ _ h => h) (by rfl) (fun w hSw => ?_) (by assumption) ?_; rotate_left 1; focus (((try dsimp only at hSw); first | (go_simp; done) | (go_simp; with_reducible rfl)))
      try simp only [Act.put, List.setIfInBounds_toArray, List.set_cons_zero, List.set_cons_succ]
      refine heldE_take (i := 1) (v := ?_) rfl (by kernel_rfl) (by kernel_rfl) (by kernel_rfl) (fun _ _ _ h => h) (by rfl) (fun w hSw => ?_) (by assumption) ?_; rotate_left 1; focus (((try dsimp only at hSw); first | (go_simp; done) | (go_simp; with_reducible rfl)))
      try simp only [Act.put, List.setIfInBounds_toArray, List.set_cons_zero, List.set_cons_succ]
      refine heldE_call (i := 2) (by kernel_rfl) rfl (by rfl) (fun K hK => ?_)
      go_simp
      refine (G1.out _ D5.out.r).mono ?_
      rintro r w6 ⟨rfl, hr6, hb6⟩
      have D6 := Lib.hid (D5.out.call hb6 hr6)
      clear hr6 hb6
      refine hK.out _ _ (D6.out.m.cells.2.2.2.1) (fun hHeld => ?_)
      try simp only [Act.put, List.setIfInBounds_toArray, List.set_cons_zero, List.set_cons_succ]
      refine heldE_call (i := 3) (by kernel_rfl) rfl (by rfl) (fun K hK => ?_)
      go_simp
      refine (G2.out _ D6.out.r).mono ?_
      rintro r w7 ⟨rfl, hr7, hb7⟩
      have D7 := Lib.hid (D6.out.call hb7 hr7)
      clear hr7 hb7
      refine hK.out _ _ (D7.out.m.cells.2.2.2.1) (fun hHeld => ?_)
      try simp only [Act.put, List.setIfInBounds_toArray, List.set_cons_zero, List.set_cons_succ]
      refine heldE_take (i := 4) (v := ?_) rfl (by kernel_rfl) (by kernel_rfl) (by kernel_rfl) (fun _ _ _ h => h) (by rfl) (fun w hSw => ?_) (by assumption) ?_; rotate_left 1; focus (((try dsimp only at hSw); first | (go_simp; done) | (go_simp; with_reducible rfl)))
      try simp only [Act.put, List.setIfInBounds_toArray, List.set_cons_zero, List.set_cons_succ]
      refine heldE_call (i := 5) (by kernel_rfl) rfl (by rfl) (fun K hK => ?_)
      go_simp
      refine hK.out _ _ ((D7.out.m.below (below_alloc _ _)).cells.2.2.2.1) (fun hHeld => ?_)
      try simp only [Act.put, List.setIfInBounds_toArray, List.set_cons_zero, List.set_cons_succ]
      refine heldE_call (i := 6) (by kernel_rfl) rfl (by rfl) (fun K hK => ?_)
      refine wp_append_lies _ (.tmp 16) (.tmp 20) 27 rfl (p + 1) 54 ti (.agg #[.int .i64 0, .int .u64 0]) 2 16 Try.underlying27 hi hy0 hy1 hy2 rfl (by decide) (.slice s1 s2 s3) G.length (G.flatMap cellsG) (by rfl) (D7.out.m.og.alloc _) ⟨w7.heap.size, 0, none⟩ 1 1 [.int .i64 (a1 : Int), .int .u64 (a2 : Int)] (by rfl) rfl (World.news_of_block (heap_alloc_new _ _)) (one_g ⟨(a1 : Int), a2⟩) (by decide) hbd.out.1 hbd.out.2.2 (by rw [World.size_alloc]; have := D7.out.m.big; omega) _ rfl ?_
      intro g9 cap9 w8 hown8 hgrow8 hat8 _
      have F8 := D7.out.addG (x := ⟨(a1 : Int), a2⟩) hown8 hgrow8
      have D8 := Lib.hid F8.1
      have K8 := Lib.hid F8.2
      clear F8 hown8 hgrow8 hat8
      refine hK.out _ _ (K8.out.1) (fun hHeld => ?_)
      try simp only [Act.put, List.setIfInBounds_toArray, List.set_cons_zero, List.set_cons_succ]
      refine heldE_take (i := 7) (v := ?_) rfl (by kernel_rfl) (by kernel_rfl) (by kernel_rfl) (fun _ _ _ h => h) (by rfl) (fun w hSw => ?_) (by assumption) ?_; rotate_left 1; focus (((try dsimp only at hSw); first | (go_simp; done) | (go_simp; with_reducible rfl)))
      try simp only [Act.put, List.setIfInBounds_toArray, List.set_cons_zero, List.set_cons_succ]
      refine heldE_last (by kernel_rfl) rfl (by rfl) (fun K hK => ?_)
      obtain ⟨k8, f8⟩ := K8.out
      go_simp
      refine hK.out _ _ ?_
      try simp only [Act.put, List.setIfInBounds_toArray, List.set_cons_zero, List.set_cons_succ]
      refine wpE_done (by kernel_rfl) ?_ _
      go_wp2_with fail
      go_roundw
      case rel => exact ⟨j + 1, by omega, by go_num, _, by rw [hnext.out]; exact D8⟩
      case measure => simp [intOf]; omega
    · obtain rfl : j = n4 := by omega
      have i0 : ¬ (j : Int) < (j : Int) := by omega
      obtain ⟨⟨G, o5⟩, h5⟩ := named (many (dgone l) j o4)
      rw [← h5.out] at hI e5
      simp only at hI
      obtain ⟨⟨n6, o6⟩, h6⟩ := named (dnum l o5 256)
      have C6 : Hid (∀ u, RO u (w.heap.size + 1) l o5 → Calls Try.prog 38 #[.pointer (some ⟨w.heap.size + 1, 0, none⟩), .int .i64 256] u fun e w' => e = .returned (.int .i64 (n6 : Int)) ∧ RO w' (w.heap.size + 1) l o6 ∧ But (w.heap.size + 1) u w') := Lib.hid (fun u hu => by have := CU.out u _ hu; rw [← h6.out] at this; exact this)
      have q6 : n6 ≤ 256 := by have := dnum_le l o5 256; rw [← h6.out] at this; exact this
      have e6 : Hid (dec6 l = (n6, o6)) := Lib.hid (by unfold dec6; rw [e5.out, h6.out])
      have e7 : Hid (dec7 l = many (dpl l) n6 o6) := Lib.hid (by unfold dec7; rw [e6.out])
      have eR : Hid (decRaw l = ⟨n1, n2, n3, G, (many (dpl l) n6 o6).1⟩) := Lib.hid (by unfold decRaw; rw [e1.out, e2.out, e3.out, e5.out, e7.out])
      have eP : Hid (DecP l ↔ ((many (dpl l) n6 o6).2 = some l.length ∧ ListedP ⟨n1, n2, n3, G, (many (dpl l) n6 o6).1⟩)) := Lib.hid (by unfold DecP; rw [e7.out, eR.out])
      replace h5 := Lib.hid trivial
      replace h6 := Lib.hid trivial
      obtain ⟨s1, s2, s3, rfl⟩ := own_shape hI.out.m.og
      clear e1 e2 e3 e4 e5 e6 e7 CU D40 q4 hj
      go_wp2_with (go_at_call 38; ((with_reducible refine (C6.out _ hI.out.r).mono ?_); rintro r w6 ⟨rfl, hr, hb⟩; have D60 := Lib.hid (hI.out.call hb hr); clear hr hb))
      clear hI C6
      have D6 : Hid (DcI p l (many (dpl l) 0 o6).2 ⟨n1, n2, n3, G, (many (dpl l) 0 o6).1⟩ (.slice s1 s2 s3) (.slice none 0 0) w w6) := D60
      clear D60
      go_loopw [25] (fun i wr => ∃ k : Nat, k ≤ n6 ∧ i = .int .i64 (k : Int) ∧ ∃ va, Hid (DcI p l (many (dpl l) k o6).2 ⟨n1, n2, n3, G, (many (dpl l) k o6).1⟩ (.slice s1 s2 s3) va w wr)) (fun i _ => n6 - (intOf i).toNat)
      case atStart => exact ⟨0, Nat.zero_le _, rfl, _, D6⟩
      case round =>
        obtain ⟨k, hk, rfl, va, hI⟩ := hrel
        by_cases hlt : k < n6
        · have k0 : (k : Int) < (n6 : Int) := by omega
          have hPl : Hid ((many (dpl l) k o6).1.length = k) := Lib.hid (many_len _ _ _)
          have hnext : Hid (many (dpl l) (k + 1) o6 = ((many (dpl l) k o6).1 ++ [(dpl l (many (dpl l) k o6).2).1], (dpl l (many (dpl l) k o6).2).2)) := Lib.hid rfl
          obtain ⟨⟨P, o⟩, hM⟩ := named (many (dpl l) k o6)
          rw [← hM.out] at hI hPl hnext
          simp only at hI hPl hnext
          replace hM := Lib.hid trivial
          obtain ⟨⟨a1, b1⟩, h1⟩ := named (dnum l o 3)
          obtain ⟨⟨x, b2⟩, h2⟩ := named (dmeta l b1)
          have G1 : Hid (∀ u, RO u (w.heap.size + 1) l o → Calls Try.prog 39 #[.pointer (some ⟨w.heap.size + 1, 0, none⟩)] u fun e w' => e = .returned (.int .i64 (a1 : Int)) ∧ RO w' (w.heap.size + 1) l b1 ∧ But (w.heap.size + 1) u w') := Lib.hid (fun u hu => by have := CL.out u o hu; rw [← h1.out] at this; exact this)
          have G2 : Hid (∀ u, RO u (w.heap.size + 1) l b1 → Calls Try.prog 40 #[.pointer (some ⟨w.heap.size + 1, 0, none⟩)] u fun e w' => e = .returned (.agg #[.int .u64 (x.num : Int), .int .i64 x.size, .int .i64 x.rows, .string x.fst, .string x.lst, .int .u64 (x.least : Int), .int .u64 (x.gr : Int)]) ∧ RO w' (w.heap.size + 1) l b2 ∧ But (w.heap.size + 1) u w') := Lib.hid (fun u hu => by have := CM.out u b1 hu; rw [← h2.out] at this; exact this)
          have hdg : Hid (dpl l o = (⟨(a1 : Int), x⟩, b2)) := Lib.hid (by unfold dpl; simp only; rw [← h1.out]; simp only; rw [← h2.out])
          rw [hdg.out] at hnext
          simp only at hnext
          replace h1 := Lib.hid trivial
          replace h2 := Lib.hid trivial
          obtain ⟨t1, t2, t3, rfl⟩ := own_shape hI.out.m.oa
          have D5 : Hid (DcI p l o ⟨n1, n2, n3, G, P⟩ (.slice s1 s2 s3) (.slice t1 t2 t3) w wr.drew) := Lib.hid (hI.out.below (Below.refl _ _).drew)
          have S0 : Hid (wr.drew.cell? ⟨p, 4, none⟩ = some (.slice t1 t2 t3)) := Lib.hid D5.out.m.cells.2.2.2.2
          have hbd : Hid (P.length + 1 ≤ maxLen ∧ (P.length + 1) * 80 ≤ 140737488355328 ∧ (P.length + 1) * 16 ≤ 140737488355328) := Lib.hid (bound_app (by rw [hPl.out]; omega))
          clear hdg CN CL CM hPl eP eR
          go_upto_region 9 with fail
          refine wp_region_E 8 (S := (fun u => u.cell? ⟨p, 4, none⟩ = some (.slice t1 t2 t3))) (by kernel_rfl) (S0.out) (fun hHeld => ?_)
          refine heldE_take (i := 0) (v := ?_) rfl (by kernel_rfl) (by kernel_rfl) (by kernel_rfl) (fun _ _ _ h => h) (by rfl) (fun w hSw => ?_) (by assumption) ?_; rotate_left 1; focus (((try dsimp only at hSw); first | (go_simp; done) | (go_simp; with_reducible rfl)))
          try simp only [Act.put, List.setIfInBounds_toArray, List.set_cons_zero, List.set_cons_succ]
          refine heldE_take (i := 1) (v := ?_) rfl (by kernel_rfl) (by kernel_rfl) (by kernel_rfl) (fun _ _ _ h => h) (by rfl) (fun w hSw => ?_) (by assumption) ?_; rotate_left 1; focus (((try dsimp only at hSw); first | (go_simp; done) | (go_simp; with_reducible rfl)))
          try simp only [Act.put, List.setIfInBounds_toArray, List.set_cons_zero, List.set_cons_succ]
          refine heldE_call (i := 2) (by kernel_rfl) rfl (by rfl) (fun K hK => ?_)
          go_simp
          refine (G1.out _ D5.out.r).mono ?_
          rintro r w7 ⟨rfl, hr7, hb7⟩
          have D7 := Lib.hid (D5.out.call hb7 hr7)
          clear hr7 hb7
          refine hK.out _ _ (D7.out.m.cells.2.2.2.2) (fun hHeld => ?_)
          try simp only [Act.put, List.setIfInBounds_toArray, List.set_cons_zero, List.set_cons_succ]
          refine heldE_call (i := 3) (by kernel_rfl) rfl (by rfl) (fun K hK => ?_)
          go_simp
          refine (G2.out _ D7.out.r).mono ?_
          rintro r w8 ⟨rfl, hr8, hb8⟩
          have D8 := Lib.hid (D7.out.call hb8 hr8)
          clear hr8 hb8
          refine hK.out _ _ (D8.out.m.cells.2.2.2.2) (fun hHeld => ?_)
          try simp only [Act.put, List.setIfInBounds_toArray, List.set_cons_zero, List.set_cons_succ]
          refine heldE_take (i := 4) (v := ?_) rfl (by kernel_rfl) (by kernel_rfl) (by kernel_rfl) (fun _ _ _ h => h) (by rfl) (fun w hSw => ?_) (by assumption) ?_; rotate_left 1; focus (((try dsimp only at hSw); first | (go_simp; done) | (go_simp; with_reducible rfl)))
          try simp only [Act.put, List.setIfInBounds_toArray, List.set_cons_zero, List.set_cons_succ]
          refine heldE_call (i := 5) (by kernel_rfl) rfl (by rfl) (fun K hK => ?_)
          go_simp
          refine hK.out _ _ ((D8.out.m.below (below_alloc _ _)).cells.2.2.2.2) (fun hHeld => ?_)
          try simp only [Act.put, List.setIfInBounds_toArray, List.set_cons_zero, List.set_cons_succ]
          refine heldE_call (i := 6) (by kernel_rfl) rfl (by rfl) (fun K hK => ?_)
          refine wp_append_lies _ (.tmp 28) (.tmp 32) 28 rfl (p + 1) 52 tj (.agg #[.int .i64 0, .int .u64 0, .int .i64 0, .int .i64 0, .string .empty, .string .empty, .int .u64 0, .int .u64 0]) 8 80 Try.underlying28 hj hj0 hj1 hj2 rfl (by decide) (.slice t1 t2 t3) P.length (P.flatMap cellsP) (by rfl) (D8.out.m.oa.alloc _) ⟨w8.heap.size, 0, none⟩ 1 1 [.int .i64 (a1 : Int), .int .u64 (x.num : Int), .int .i64 x.size, .int .i64 x.rows, .string x.fst, .string x.lst, .int .u64 (x.least : Int), .int .u64 (x.gr : Int)] (by rfl) rfl (World.news_of_block (heap_alloc_new _ _)) (one_p ⟨(a1 : Int), x⟩) (by decide) hbd.out.1 hbd.out.2.1 (by rw [World.size_alloc]; have := D8.out.m.big; omega) _ rfl ?_
          intro g9 cap9 w9 hown9 hgrow9 hat9 _
          have F9 := D8.out.addA (x := ⟨(a1 : Int), x⟩) hown9 hgrow9
          have D9 := Lib.hid F9.1
          have K9 := Lib.hid F9.2
          clear F9 hown9 hgrow9 hat9
          refine hK.out _ _ (K9.out.1) (fun hHeld => ?_)
          try simp only [Act.put, List.setIfInBounds_toArray, List.set_cons_zero, List.set_cons_succ]
          refine heldE_take (i := 7) (v := ?_) rfl (by kernel_rfl) (by kernel_rfl) (by kernel_rfl) (fun _ _ _ h => h) (by rfl) (fun w hSw => ?_) (by assumption) ?_; rotate_left 1; focus (((try dsimp only at hSw); first | (go_simp; done) | (go_simp; with_reducible rfl)))
          try simp only [Act.put, List.setIfInBounds_toArray, List.set_cons_zero, List.set_cons_succ]
          refine heldE_last (by kernel_rfl) rfl (by rfl) (fun K hK => ?_)
          obtain ⟨k9, f9⟩ := K9.out
          go_simp
          refine hK.out _ _ ?_
          try simp only [Act.put, List.setIfInBounds_toArray, List.set_cons_zero, List.set_cons_succ]
          refine wpE_done (by kernel_rfl) ?_ _
          go_wp2_with fail
          go_roundw
          case rel => exact ⟨k + 1, by omega, by go_num, _, by rw [hnext.out]; exact D9⟩
          case measure => simp [intOf]; omega
        · obtain rfl : k = n6 := by omega
          have k0 : ¬ (k : Int) < (k : Int) := by omega
          obtain ⟨⟨P, o7⟩, h7⟩ := named (many (dpl l) k o6)
          rw [← h7.out] at hI eP eR
          simp only at hI eP eR
          replace h7 := Lib.hid trivial
          obtain ⟨t1, t2, t3, rfl⟩ := own_shape hI.out.m.oa
          clear CN CL CM
          obtain ⟨z0, z1, z2, z3, z4⟩ := five_cells hI.out.z
          have zf := five_frozen hI.out.z
          obtain ⟨t, f, ⟨q0, q1, _, _⟩, _, hRd⟩ := hI.out.r
          have YC := Lib.hid (five_cells (five_put hI.out.z (.int .u64 0) (.int .u64 0) (.int .u64 0) (.slice none 0 0) (.slice none 0 0)))
          have FB := Lib.hid <| five_below hI.out.f (Nat.le_refl _) (.int .u64 0) (.int .u64 0) (.int .u64 0) (.slice none 0 0) (.slice none 0 0)
          cases o7 with
          | none =>
            obtain ⟨_, rfl⟩ := hRd
            have hno : ¬ DecP l := by rw [eP.out]; rintro ⟨h, _⟩; cases h
            clear eP eR hlen hl
            go_wp2_with fail
            obtain ⟨y0, y1, y2, y3, y4⟩ := YC.out
            exact bodyPost_ret (v := .tuple #[zEV, .int .i64 7]) (by simp [results, Try.results20, go_sem, y0, y1, y2, y3, y4]) rfl ⟨.inr ⟨hno, rfl⟩, FB.out⟩
          | some a =>
            obtain ⟨ha, hta, rfl⟩ := hRd
            by_cases hal : a = l.length
            · subst hal
              rw [List.drop_length] at hta
              obtain rfl : t = ⟨#[]⟩ := by
                cases t with
                | mk d => simp at hta; rw [hta]
              clear hta
              obtain ⟨hg, ha', v1, v2, hE, _, _⟩ := hI.out.m.at
              have LC := Lib.hid (islisted_any hE)
              have HI := Lib.hid (fun u hu => hI.out.below (u := u) hu)
              obtain ⟨c0, c1, c2, c3, c4⟩ := hI.out.m.cells
              simp only at c0 c1 c2 c3 c4
              have FB2 : Hid (∀ u, Below wr.heap.size wr u → ∀ m0 m1 m2 m3 m4, Below w.heap.size w (((((u.setCell ⟨w.heap.size, 0, none⟩ m0).setCell ⟨w.heap.size, 1, none⟩ m1).setCell ⟨w.heap.size, 2, none⟩ m2).setCell ⟨w.heap.size, 3, none⟩ m3).setCell ⟨w.heap.size, 4, none⟩ m4)) := Lib.hid (fun u hu m0 m1 m2 m3 m4 => five_below (below_of hI.out.f hu) (Nat.le_refl _) _ _ _ _ _)
              obtain ⟨e, he⟩ := named (⟨n1, n2, n3, G, P⟩ : Ed)
              simp only [hdV, edV] at LC v1 v2
              rw [← v1, ← v2] at LC
              have ht0 : ((⟨#[]⟩ : ByteArray).toList == []) = true := by rw [empty_size]; rfl
              replace v1 := Lib.hid v1
              replace v2 := Lib.hid v2
              by_cases hL : ListedP ⟨n1, n2, n3, G, P⟩
              · have hyes : DecP l := by rw [eP.out]; exact ⟨rfl, hL⟩
                rw [tf_true hL] at LC
                clear eP hL hE hl hlen YC FB ha
                go_wp2_with (go_at_call 27; ((with_reducible refine LC.out.mono ?_); rintro r w9 ⟨rfl, hb9⟩; have D9 := Lib.hid (HI.out _ hb9); have B9 := Lib.hid (FB2.out _ hb9); clear hb9; obtain ⟨d0, d1, d2, d3, d4⟩ := D9.out.m.cells; obtain ⟨z0', z1', z2', z3', z4'⟩ := five_cells D9.out.z; have zf' := five_frozen D9.out.z))
                obtain ⟨y0, y1, y2, y3, y4⟩ := five_cells (five_put D9.out.z (.int .u64 (n1 : Int)) (.int .u64 (n2 : Int)) (.int .u64 (n3 : Int)) (.slice s1 s2 s3) (.slice t1 t2 t3))
                obtain ⟨hg', ha', v1', v2', E'⟩ := D9.out.m.put (N := w.heap.size) (by have := D9.out.lo; omega) (.int .u64 (n1 : Int)) (.int .u64 (n2 : Int)) (.int .u64 (n3 : Int)) (.slice s1 s2 s3) (.slice t1 t2 t3)
                refine bodyPost_ret (v := .tuple #[.agg #[.int .u64 (n1 : Int), .int .u64 (n2 : Int), .int .u64 (n3 : Int), .slice s1 s2 s3, .slice t1 t2 t3], .int .i64 0]) (by simp [results, Try.results20, go_sem, y0, y1, y2, y3, y4]) rfl ⟨.inl ⟨hyes, hg', ha', ?_, ?_⟩, B9.out _ _ _ _ _⟩
                · rw [eR.out]
                  simp only [hdV] at v1' v2'
                  simp only [edV]
                  rw [← v1', ← v2']
                · rw [eR.out]; exact E'
              · have hno : ¬ DecP l := by rw [eP.out]; exact fun h => hL h.2
                rw [tf_false hL] at LC
                clear eP eR hL hE hl hlen YC FB ha
                go_wp2_with (go_at_call 27; ((with_reducible refine LC.out.mono ?_); rintro r w9 ⟨rfl, hb9⟩; have D9 := Lib.hid (HI.out _ hb9); have B9 := Lib.hid (FB2.out _ hb9); clear hb9; obtain ⟨z0', z1', z2', z3', z4'⟩ := five_cells D9.out.z; have zf' := five_frozen D9.out.z))
                obtain ⟨y0, y1, y2, y3, y4⟩ := five_cells (five_put D9.out.z (.int .u64 0) (.int .u64 0) (.int .u64 0) (.slice none 0 0) (.slice none 0 0))
                exact bodyPost_ret (v := .tuple #[zEV, .int .i64 7]) (by simp [results, Try.results20, go_sem, y0, y1, y2, y3, y4]) rfl ⟨.inr ⟨hno, rfl⟩, B9.out _ _ _ _ _⟩
            · have hno : ¬ DecP l := by
                rw [eP.out]
                rintro ⟨h, _⟩
                injection h with h
                exact hal h
              have ht0 : (t.toList == []) = false := by
                have h1 : 0 < t.data.toList.length := by rw [hta, List.length_drop]; omega
                rw [Array.length_toList] at h1
                have h2 : 0 < t.size := h1
                rw [empty_size]
                exact decide_eq_false (by omega)
              clear eP eR hlen hl hta ha hal
              go_wp2_with fail
              obtain ⟨y0, y1, y2, y3, y4⟩ := YC.out
              exact bodyPost_ret (v := .tuple #[zEV, .int .i64 7]) (by simp [results, Try.results20, go_sem, y0, y1, y2, y3, y4]) rfl ⟨.inr ⟨hno, rfl⟩, FB.out⟩
end Go.Proofs.Ytkkedofbnmjgeaa
