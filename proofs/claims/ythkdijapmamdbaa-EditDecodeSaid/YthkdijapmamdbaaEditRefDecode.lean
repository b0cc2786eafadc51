/-
  The contract of the document's Decode: the edit that is read, or ErrForm. Condition: a text that came in.
-/
import Derived.Test.YthkdijapmamdbaaEditDecode
namespace Go.Proofs.Ythkdijapmamdbaa
set_option maxRecDepth 100000
open Go Go.RowKit
theorem dgone_ok {l : List UInt8} {o : Option Nat} (h : OkAt l o) : OkAt l (dgone l o).2 := dnum_ok (dnum_ok h)
theorem dmeta_ok {l : List UInt8} {o : Option Nat} (h : OkAt l o) : OkAt l (dmeta l o).2 := dnum_ok (dnum_ok (dtxt_ok (dtxt_ok (dnum_ok (dnum_ok (dnum_ok h))))))
theorem dpl_ok {l : List UInt8} {o : Option Nat} (h : OkAt l o) : OkAt l (dpl l o).2 := dmeta_ok (dnum_ok h)
theorem many_ok {α : Type} {l : List UInt8} (rd : Option Nat → α × Option Nat) (hr : ∀ o, OkAt l o → OkAt l (rd o).2) (n : Nat) {o : Option Nat} (h : OkAt l o) : OkAt l (many rd n o).2 := by
  induction n with
  | zero => exact h
  | succ n ih => exact hr _ ih
theorem dnum_none (l : List UInt8) (m : Nat) : dnum l none m = (0, none) := rfl
theorem dec_none5 {l : List UInt8} (h : (dec5 l).2 = none) : (dec7 l).2 = none := by
  unfold dec7 dec6
  rw [h, dnum_none]
  rfl
/-- Decode under way. -/
structure RdI (p : Nat) (e : Ed) (vg va : Value) (w wr : World) : Prop where
  m : EdM (p + 1) p e vg va wr
  z : wr.heap[w.heap.size]? = some zE
  f : Below w.heap.size w wr
  lo : w.heap.size < p
theorem RdI.below {p : Nat} {e : Ed} {vg va : Value} {w wr u : World} (h : RdI p e vg va w wr) (hb : Below wr.heap.size wr u) : RdI p e vg va w u :=
  ⟨h.m.below hb, (hb.block _ (by have := h.lo; have := h.m.big; omega)).trans h.z, below_of h.f hb, h.lo⟩
theorem RdI.fr {p : Nat} {e e' : Ed} {vg va vg' va' : Value} {w wr u : World} (h : RdI p e vg va w wr) (hf : Fr (p + 1) p wr u) (hm : EdM (p + 1) p e' vg' va' u) : RdI p e' vg' va' w u := by
  have lo := h.lo
  exact ⟨hm, (hf.block _ (by omega) (by omega)).trans h.z, h.f.trans (hf.below (by omega) (by omega)), lo⟩
theorem RdI.addG {p : Nat} {e : Ed} {vg va v' : Value} {w C w1 : World} {tmp : Obj} {x : Gn} (h : RdI p e vg va w C) (hown : w1.ownsRow (p + 1) 52 2 v' (e.gone.length + 1) (e.gone.flatMap cellsG ++ cellsG x)) (hgrow : (C.alloc tmp).grownBy w1 vg.ownBlock) :
    RdI p ⟨e.log, e.next, e.seq, e.gone ++ [x], e.added⟩ v' va w (w1.setCell ⟨p, 3, none⟩ v') ∧ w1.cell? ⟨p, 3, none⟩ = some vg ∧ w1.frozen? ⟨p, 3, none⟩ = false := by
  obtain ⟨a1, a2, a3, a4⟩ := h.m.addG hown hgrow
  exact ⟨h.fr a2 a1, a3, a4⟩
theorem RdI.addA {p : Nat} {e : Ed} {vg va v' : Value} {w C w1 : World} {tmp : Obj} {x : Pl} (h : RdI p e vg va w C) (hown : w1.ownsRow (p + 1) 62 8 v' (e.added.length + 1) (e.added.flatMap cellsP ++ cellsP x)) (hgrow : (C.alloc tmp).grownBy w1 va.ownBlock) :
    RdI p ⟨e.log, e.next, e.seq, e.gone, e.added ++ [x]⟩ vg v' w (w1.setCell ⟨p, 4, none⟩ v') ∧ w1.cell? ⟨p, 4, none⟩ = some va ∧ w1.frozen? ⟨p, 4, none⟩ = false := by
  obtain ⟨a1, a2, a3, a4⟩ := h.m.addA hown hgrow
  exact ⟨h.fr a2 a1, a3, a4⟩
/-- The three numbers, stored into a new edit. -/
theorem RdI.three (a b c : Nat) (w : World) : RdI (w.heap.size + 1) ⟨a, b, c, [], []⟩ (.slice none 0 0) (.slice none 0 0) w ((w.alloc zE).alloc (edC a b c (.slice none 0 0) (.slice none 0 0))) := by
  have h := EdM.new a b c (w.alloc zE)
  rw [World.size_alloc] at h
  exact ⟨h, (Below.heap_alloc _ _ _ (by rw [World.size_alloc]; omega)).trans (heap_alloc_new _ _), (below_alloc w _).alloc (by simp) _, by omega⟩
abbrev plB (x : Pl) : Obj := .cells #[.int .i64 x.lev, .int .u64 (x.tb.num : Int), .int .i64 x.tb.size, .int .i64 x.tb.rows, .string x.tb.fst, .string x.tb.lst, .int .u64 (x.tb.least : Int), .int .u64 (x.tb.gr : Int)] 62 (0, 0)
theorem pl_cells {b : Nat} {x : Pl} {u : World} (h : u.heap[b]? = some (.cells #[.int .i64 x.lev, .int .u64 (x.tb.num : Int), .int .i64 x.tb.size, .int .i64 x.tb.rows, .string x.tb.fst, .string x.tb.lst, .int .u64 (x.tb.least : Int), .int .u64 (x.tb.gr : Int)] 62 (0, 0))) : u.cell? ⟨b, 0, none⟩ = some (.int .i64 x.lev) ∧ u.cell? ⟨b, 1, none⟩ = some (.int .u64 (x.tb.num : Int)) ∧ u.cell? ⟨b, 2, none⟩ = some (.int .i64 x.tb.size) ∧ u.cell? ⟨b, 3, none⟩ = some (.int .i64 x.tb.rows) ∧ u.cell? ⟨b, 4, none⟩ = some (.string x.tb.fst) ∧ u.cell? ⟨b, 5, none⟩ = some (.string x.tb.lst) ∧ u.cell? ⟨b, 6, none⟩ = some (.int .u64 (x.tb.least : Int)) ∧ u.cell? ⟨b, 7, none⟩ = some (.int .u64 (x.tb.gr : Int)) := by
  simp only [World.cell?, h]
  exact ⟨rfl, rfl, rfl, rfl, rfl, rfl, rfl, rfl⟩
theorem wr_i64n (n : Nat) (h : n ≤ 262144) : IntKind.i64.wrap (n : Int) = (n : Int) := by rw [IntKind.wrap_i64]; omega
theorem wr_u64s (n : Nat) (h : n ≤ 262144) : IntKind.u64.wrap ((n : Int) + 1) = (n : Int) + 1 := by rw [IntKind.wrap_u64]; omega
theorem at_none {l : List UInt8} {s : ByteArray} (hl : l.length = s.size) {o : Option Nat} (h : o ≠ some l.length) : (atI o != (s.size : Int)) = true ∧ ¬ atI o = (s.size : Int) := by
  have : ¬ atI o = (s.size : Int) := by
    intro e
    cases o with
    | none => simp only [atI] at e; omega
    | some a => simp only [atI] at e; exact h (by rw [hl]; congr 1; omega)
  exact ⟨bne_iff_ne.2 this, this⟩
theorem at_some {l : List UInt8} {s : ByteArray} (hl : l.length = s.size) : (atI (some l.length) != (s.size : Int)) = false ∧ atI (some l.length) = (s.size : Int) := by
  have : atI (some l.length) = (s.size : Int) := by simp only [atI]; omega
  exact ⟨bne_eq_false_iff_eq.2 this, this⟩
theorem at_ge {o : Option Nat} (h : ¬ o = none) : decide ((0 : Int) ≤ atI o) = true ∧ (0 : Int) ≤ atI o := by
  have : (0 : Int) ≤ atI o := by
    cases o with
    | none => exact absurd rfl h
    | some a => simp only [atI]; omega
  exact ⟨decide_eq_true this, this⟩
set_option maxRecDepth 100000 in
set_option maxHeartbeats 16000000 in
theorem rdecode_any (s : ByteArray) (hs : s.size ≤ reachBytes) (w : World) : Calls Try.prog 20 #[.string s] w fun r w' => DecD s.data.toList r w' ∧ Below w.heap.size w w' := by
  have DN := Lib.hid (fun o ho most hm u => dnum_any s hs o ho most hm u)
  have DT := Lib.hid (fun o ho u => dtxt_any s hs o ho u)
  obtain ⟨l, hl⟩ := named s.data.toList
  have hlen : Hid (l.length = s.size) := Lib.hid (by rw [hl.out, Array.length_toList]; rfl)
  have hmx : Hid (s.size ≤ 9223372036854775807) := Lib.hid (by have := reach_max hs; unfold maxLen at this; omega)
  rw [← hl.out] at DN DT
  rw [← hl.out]
  replace hl := Lib.hid trivial
  clear hs
  have CN : Hid (∀ o u, OkAt l o → Calls Try.prog 40 #[.string s, .int .i64 (atI o), .int .u64 18446744073709551615] u fun e w' => e = .returned (.tuple #[.int .u64 ((dnum l o mostN).1 : Int), .int .i64 (atI (dnum l o mostN).2)]) ∧ w' = u) := Lib.hid (fun o u ho => DN.out o ho mostN (Nat.le_refl _) u)
  have C3 : Hid (∀ o u, OkAt l o → Calls Try.prog 40 #[.string s, .int .i64 (atI o), .int .u64 3] u fun e w' => e = .returned (.tuple #[.int .u64 ((dnum l o 3).1 : Int), .int .i64 (atI (dnum l o 3).2)]) ∧ w' = u) := Lib.hid (fun o u ho => DN.out o ho 3 (by omega) u)
  have CB : Hid (∀ o u, OkAt l o → Calls Try.prog 40 #[.string s, .int .i64 (atI o), .int .u64 256] u fun e w' => e = .returned (.tuple #[.int .u64 ((dnum l o 256).1 : Int), .int .i64 (atI (dnum l o 256).2)]) ∧ w' = u) := Lib.hid (fun o u ho => DN.out o ho 256 (by omega) u)
  have CR : Hid (∀ o u, OkAt l o → Calls Try.prog 40 #[.string s, .int .i64 (atI o), .int .u64 262144] u fun e w' => e = .returned (.tuple #[.int .u64 ((dnum l o 262144).1 : Int), .int .i64 (atI (dnum l o 262144).2)]) ∧ w' = u) := Lib.hid (fun o u ho => DN.out o ho 262144 (by omega) u)
  have k0 : OkAt l (some 0) := fun a ha => by injection ha with ha; omega
  obtain ⟨r1, h1⟩ := named (dnum l (some 0) mostN)
  have k1 : OkAt l r1.2 := by rw [h1.out]; exact dnum_ok k0
  have D1 : Hid (∀ u, Calls Try.prog 40 #[.string s, .int .i64 0, .int .u64 18446744073709551615] u fun e w' => e = .returned (.tuple #[.int .u64 (r1.1 : Int), .int .i64 (atI r1.2)]) ∧ w' = u) := Lib.hid (fun u => by rw [h1.out]; exact CN.out _ u k0)
  obtain ⟨r2, h2⟩ := named (dnum l r1.2 mostN)
  have k2 : OkAt l r2.2 := by rw [h2.out]; exact dnum_ok k1
  have D2 : Hid (∀ u, Calls Try.prog 40 #[.string s, .int .i64 (atI r1.2), .int .u64 18446744073709551615] u fun e w' => e = .returned (.tuple #[.int .u64 (r2.1 : Int), .int .i64 (atI r2.2)]) ∧ w' = u) := Lib.hid (fun u => by rw [h2.out]; exact CN.out _ u k1)
  obtain ⟨r3, h3⟩ := named (dnum l r2.2 mostN)
  have k3 : OkAt l r3.2 := by rw [h3.out]; exact dnum_ok k2
  have D3 : Hid (∀ u, Calls Try.prog 40 #[.string s, .int .i64 (atI r2.2), .int .u64 18446744073709551615] u fun e w' => e = .returned (.tuple #[.int .u64 (r3.1 : Int), .int .i64 (atI r3.2)]) ∧ w' = u) := Lib.hid (fun u => by rw [h3.out]; exact CN.out _ u k2)
  obtain ⟨r4, h4⟩ := named (dnum l r3.2 256)
  have k4 : OkAt l r4.2 := by rw [h4.out]; exact dnum_ok k3
  have D4 : Hid (∀ u, Calls Try.prog 40 #[.string s, .int .i64 (atI r3.2), .int .u64 256] u fun e w' => e = .returned (.tuple #[.int .u64 (r4.1 : Int), .int .i64 (atI r4.2)]) ∧ w' = u) := Lib.hid (fun u => by rw [h4.out]; exact CB.out _ u k3)
  have q4 : r4.1 ≤ 256 := by rw [h4.out]; exact dnum_le _ _ _
  have e1 : Hid (dec1 l = r1) := Lib.hid (by unfold dec1; rw [h1.out])
  have e2 : Hid (dec2 l = r2) := Lib.hid (by unfold dec2; rw [e1.out, h2.out])
  have e3 : Hid (dec3 l = r3) := Lib.hid (by unfold dec3; rw [e2.out, h3.out])
  have e4 : Hid (dec4 l = r4) := Lib.hid (by unfold dec4; rw [e3.out, h4.out])
  have e5 : Hid (dec5 l = many (dgone l) r4.1 r4.2) := Lib.hid (by unfold dec5; rw [e4.out])
  replace h1 := Lib.hid trivial
  replace h2 := Lib.hid trivial
  replace h3 := Lib.hid trivial
  replace h4 := Lib.hid trivial
  obtain ⟨n1, o1⟩ := r1
  obtain ⟨n2, o2⟩ := r2
  obtain ⟨n3, o3⟩ := r3
  obtain ⟨n4, o4⟩ := r4
  simp only at D1 D2 D3 D4 q4 e5 k4
  have k4 := Lib.hid k4
  clear k0 k1 k2 k3 DN
  obtain ⟨ti, hi, hy0, hy1, hy2⟩ := info_parts infoG
  obtain ⟨tj, hj, hj0, hj1, hj2⟩ := info_parts infoP
  have I0 := Lib.hid (RdI.three n1 n2 n3 w)
  go_enter Try.func20, Try.ntmps20
  go_wp2_with (first
    | (go_at_call 40; ((with_reducible refine (D1.out _).mono ?_); rintro r w1 ⟨rfl, rfl⟩))
    | (go_at_call 40; ((with_reducible refine (D2.out _).mono ?_); rintro r w1 ⟨rfl, rfl⟩))
    | (go_at_call 40; ((with_reducible refine (D3.out _).mono ?_); rintro r w1 ⟨rfl, rfl⟩))
    | (go_at_call 40; ((with_reducible refine (D4.out _).mono ?_); rintro r w1 ⟨rfl, rfl⟩)))
  have CT : Hid (∀ o u, OkAt l o → Calls Try.prog 41 #[.string s, .int .i64 (atI o)] u fun e w' => e = .returned (.tuple #[.string ⟨(dtxt l o).1.toArray⟩, .int .i64 (atI (dtxt l o).2)]) ∧ w' = u) := Lib.hid (fun o u ho => DT.out o ho u)
  clear D1 D2 D3 D4 DT
  have hj9 : Hid True := Lib.hid trivial
  go_loopw [11, 7] (fun i x wr => ∃ j : Nat, j ≤ n4 ∧ i = .int .u64 (j : Int) ∧ x = .int .i64 (atI (many (dgone l) j o4).2) ∧ ∃ vg, Hid (RdI (w.heap.size + 1) ⟨n1, n2, n3, (many (dgone l) j o4).1, []⟩ vg (.slice none 0 0) w wr)) (fun i _ _ => n4 - (intOf i).toNat)
  case atStart => exact ⟨0, Nat.zero_le _, rfl, rfl, _, I0⟩
  case round =>
    clear I0
    obtain ⟨j, hjn, rfl, rfl, vg, hI⟩ := hrel
    have hok : Hid (OkAt l (many (dgone l) j o4).2) := Lib.hid (many_ok _ (fun _ h => dgone_ok h) _ k4.out)
    by_cases hlt : j < n4
    · have i0 : (j : Int) < (n4 : Int) := by omega
      by_cases ho : (many (dgone l) j o4).2 = none
      ·
        have hno : Hid (¬ DecP l) := Lib.hid (by
          intro h
          have h5 := many_none _ (dgone_none l) j o4 ho n4 (by omega)
          rw [← e5.out] at h5
          have h7 := h.1
          rw [dec_none5 h5] at h7
          cases h7)
        have gne := Lib.hid (at_none (o := none) hlen.out (by simp))
        have gz : decide ((0 : Int) ≤ atI none) = false := rfl
        have gz2 : ¬ (0 : Int) ≤ atI none := by simp [atI]
        have D6 : Hid (∀ u, Calls Try.prog 40 #[.string s, .int .i64 (atI none), .int .u64 256] u fun e w' => e = .returned (.tuple #[.int .u64 0, .int .i64 (atI none)]) ∧ u = w') := Lib.hid (fun u => (CB.out none u (fun a h => by cases h)).mono fun _ _ h => ⟨h.1, h.2.symm⟩)
        rw [ho]
        clear hok CN C3 CB CR CT e1 e2 e3 e4 e5
        go_wp2_with (go_at_call 40; ((with_reducible refine (D6.out _).mono ?_); rintro r w1 ⟨rfl, rfl⟩))
        go_loopw [16, 7] (fun i x wr => i = .int .u64 0 ∧ x = .int .i64 (atI none) ∧ Hid (RdI (w.heap.size + 1) ⟨n1, n2, n3, (many (dgone l) j o4).1, []⟩ vg (.slice none 0 0) w wr)) (fun _ _ _ => 0)
        case atStart => exact ⟨rfl, rfl, hI⟩
        case round =>
          obtain ⟨rfl, rfl, hI⟩ := hrel
          obtain ⟨z0, z1, z2, z3, z4⟩ := five_cells hI.out.z
          have zf := five_frozen hI.out.z
          have YC := Lib.hid (five_cells (five_put hI.out.z (.int .u64 0) (.int .u64 0) (.int .u64 0) (.slice none 0 0) (.slice none 0 0)))
          have FB := Lib.hid <| five_below hI.out.f (Nat.le_refl _) (.int .u64 0) (.int .u64 0) (.int .u64 0) (.slice none 0 0) (.slice none 0 0)
          obtain ⟨gn1, gn2⟩ := gne.out
          replace gne := Lib.hid trivial
          go_wp2_with fail
          obtain ⟨y0, y1, y2, y3, y4⟩ := YC.out
          exact bodyPost_ret (v := .tuple #[zEV, .int .i64 7]) (by simp [results, Try.results20, go_sem, y0, y1, y2, y3, y4]) rfl ⟨.inr ⟨hno.out, rfl⟩, FB.out⟩
      ·
        obtain ⟨gz1, gz2⟩ := at_ge ho
        have hGl : Hid ((many (dgone l) j o4).1.length = j) := Lib.hid (many_len _ _ _)
        have hnext : Hid (many (dgone l) (j + 1) o4 = ((many (dgone l) j o4).1 ++ [(dgone l (many (dgone l) j o4).2).1], (dgone l (many (dgone l) j o4).2).2)) := Lib.hid rfl
        obtain ⟨⟨G, o⟩, hM⟩ := named (many (dgone l) j o4)
        rw [← hM.out] at hI hGl hnext hok gz1 gz2 ⊢
        simp only at hI hGl hnext hok gz1 gz2 ⊢
        replace hM := Lib.hid trivial
        obtain ⟨⟨a1, b1⟩, h1⟩ := named (dnum l o 3)
        obtain ⟨⟨a2, b2⟩, h2⟩ := named (dnum l b1 mostN)
        have kb1 : Hid (OkAt l b1) := Lib.hid (by have := dnum_ok (most := 3) hok.out; rw [← h1.out] at this; exact this)
        have q1 : a1 ≤ 3 := by have := dnum_le l o 3; rw [← h1.out] at this; exact this
        have wa1 := wr_i64n a1 (by omega)
        have G1 : Hid (∀ u, Calls Try.prog 40 #[.string s, .int .i64 (atI o), .int .u64 3] u fun e w' => e = .returned (.tuple #[.int .u64 (a1 : Int), .int .i64 (atI b1)]) ∧ u = w') := Lib.hid (fun u => by have := C3.out o u hok.out; rw [← h1.out] at this; exact this.mono fun _ _ h => ⟨h.1, h.2.symm⟩)
        have G2 : Hid (∀ u, Calls Try.prog 40 #[.string s, .int .i64 (atI b1), .int .u64 18446744073709551615] u fun e w' => e = .returned (.tuple #[.int .u64 (a2 : Int), .int .i64 (atI b2)]) ∧ u = w') := Lib.hid (fun u => by have := CN.out b1 u kb1.out; rw [← h2.out] at this; exact this.mono fun _ _ h => ⟨h.1, h.2.symm⟩)
        have hdg : Hid (dgone l o = (⟨(a1 : Int), a2⟩, b2)) := Lib.hid (by unfold dgone; simp only; rw [← h1.out]; simp only; rw [← h2.out])
        rw [hdg.out] at hnext
        simp only at hnext
        replace h1 := Lib.hid trivial
        replace h2 := Lib.hid trivial
        obtain ⟨s1, s2, s3, rfl⟩ := own_shape hI.out.m.og
        obtain ⟨c0, c1, c2, c3, c4⟩ := hI.out.m.cells
        have cf := hI.out.m.frozen
        have hbd : Hid (G.length + 1 ≤ maxLen ∧ (G.length + 1) * 80 ≤ 140737488355328 ∧ (G.length + 1) * 16 ≤ 140737488355328) := Lib.hid (bound_app (by rw [hGl.out]; omega))
        have wj := Lib.hid (wr_u64s j (by omega))
        clear hdg CN C3 CB CR CT hGl ho
        go_wp2_with (first
          | (go_at_call 40; ((with_reducible refine (G1.out _).mono ?_); rintro r w1 ⟨rfl, rfl⟩))
          | (go_at_call 40; ((with_reducible refine (G2.out _).mono ?_); rintro r w1 ⟨rfl, rfl⟩))
          | (at_builtin; refine wpList_append_lies _ rfl _ _ 27 rfl (w.heap.size + 1 + 1) 52 ti (.agg #[.int .i64 0, .int .u64 0]) 2 16 Try.underlying27 hi hy0 hy1 hy2 rfl (by decide) (.slice s1 s2 s3) G.length (G.flatMap cellsG) (by rfl) (hI.out.m.og.alloc _) ⟨wr.heap.size, 0, none⟩ 1 1 [.int .i64 (a1 : Int), .int .u64 (a2 : Int)] (by rfl) rfl (World.news_of_block (heap_alloc_new _ _)) (one_g ⟨(a1 : Int), a2⟩) (by decide) hbd.out.1 hbd.out.2.2 (by rw [World.size_alloc]; have := hI.out.m.big; omega) _ rfl ?_; intro g9 cap9 w8 hown8 hgrow8 hat8 _; have F8 := Lib.hid (hI.out.addG (x := ⟨(a1 : Int), a2⟩) hown8 hgrow8); obtain ⟨k8, f8⟩ := F8.out.2; clear hown8 hgrow8 hat8))
        go_roundw
        case rel => exact ⟨j + 1, by omega, by first | go_num | (rw [wj.out]; go_num), by rw [hnext.out], _, by rw [hnext.out]; exact Lib.hid F8.out.1⟩
        case measure => first | (simp [intOf]; omega) | (rw [wj.out]; simp [intOf]; omega)
    · obtain rfl : j = n4 := by omega
      have i0 : ¬ (j : Int) < (j : Int) := by omega
      obtain ⟨⟨G, o5⟩, h5⟩ := named (many (dgone l) j o4)
      rw [← h5.out] at hI e5 hok ⊢
      simp only at hI hok ⊢
      obtain ⟨⟨n6, o6⟩, h6⟩ := named (dnum l o5 256)
      have D6 : Hid (∀ u, Calls Try.prog 40 #[.string s, .int .i64 (atI o5), .int .u64 256] u fun e w' => e = .returned (.tuple #[.int .u64 (n6 : Int), .int .i64 (atI o6)]) ∧ u = w') := Lib.hid (fun u => by have := CB.out o5 u hok.out; rw [← h6.out] at this; exact this.mono fun _ _ h => ⟨h.1, h.2.symm⟩)
      have k6 : Hid (OkAt l o6) := Lib.hid (by have := dnum_ok (most := 256) hok.out; rw [← h6.out] at this; exact this)
      have q6 : n6 ≤ 256 := by have := dnum_le l o5 256; rw [← h6.out] at this; exact this
      have e6 : Hid (dec6 l = (n6, o6)) := Lib.hid (by unfold dec6; rw [e5.out, h6.out])
      have e7 : Hid (dec7 l = many (dpl l) n6 o6) := Lib.hid (by unfold dec7; rw [e6.out])
      have eR : Hid (decRaw l = ⟨n1, n2, n3, G, (many (dpl l) n6 o6).1⟩) := Lib.hid (by unfold decRaw; rw [e1.out, e2.out, e3.out, e5.out, e7.out])
      have eP : Hid (DecP l ↔ ((many (dpl l) n6 o6).2 = some l.length ∧ ListedP ⟨n1, n2, n3, G, (many (dpl l) n6 o6).1⟩)) := Lib.hid (by unfold DecP; rw [e7.out, eR.out])
      replace h5 := Lib.hid trivial
      replace h6 := Lib.hid trivial
      obtain ⟨s1, s2, s3, rfl⟩ := own_shape hI.out.m.og
      clear e1 e2 e3 e4 e5 e6 e7 q4 hjn hok
      go_wp2_with (go_at_call 40; ((with_reducible refine (D6.out _).mono ?_); rintro r w1 ⟨rfl, rfl⟩))
      go_loopw [16, 7] (fun i x wr => ∃ k : Nat, k ≤ n6 ∧ i = .int .u64 (k : Int) ∧ x = .int .i64 (atI (many (dpl l) k o6).2) ∧ ∃ va, Hid (RdI (w.heap.size + 1) ⟨n1, n2, n3, G, (many (dpl l) k o6).1⟩ (.slice s1 s2 s3) va w wr)) (fun i _ _ => n6 - (intOf i).toNat)
      case atStart => exact ⟨0, Nat.zero_le _, rfl, rfl, _, hI⟩
      case round =>
        obtain ⟨k, hk, rfl, rfl, va, hI⟩ := hrel
        have hok : Hid (OkAt l (many (dpl l) k o6).2) := Lib.hid (many_ok _ (fun _ h => dpl_ok h) _ k6.out)
        by_cases hlt : k < n6
        · have k0 : (k : Int) < (n6 : Int) := by omega
          by_cases ho : (many (dpl l) k o6).2 = none
          · have hno : Hid (¬ DecP l) := Lib.hid (by rw [eP.out, many_none _ (dpl_none l) k o6 ho n6 (by omega)]; rintro ⟨h, _⟩; cases h)
            have gne := Lib.hid (at_none (o := none) hlen.out (by simp))
            have gz : decide ((0 : Int) ≤ atI none) = false := rfl
            have gz2 : ¬ (0 : Int) ≤ atI none := by simp [atI]
            rw [ho]
            clear eP eR hok CN C3 CB CR CT
            obtain ⟨z0, z1, z2, z3, z4⟩ := five_cells hI.out.z
            have zf := five_frozen hI.out.z
            have YC := Lib.hid (five_cells (five_put hI.out.z (.int .u64 0) (.int .u64 0) (.int .u64 0) (.slice none 0 0) (.slice none 0 0)))
            have FB := Lib.hid <| five_below hI.out.f (Nat.le_refl _) (.int .u64 0) (.int .u64 0) (.int .u64 0) (.slice none 0 0) (.slice none 0 0)
            obtain ⟨gn1, gn2⟩ := gne.out
            replace gne := Lib.hid trivial
            go_wp2_with fail
            obtain ⟨y0, y1, y2, y3, y4⟩ := YC.out
            exact bodyPost_ret (v := .tuple #[zEV, .int .i64 7]) (by simp [results, Try.results20, go_sem, y0, y1, y2, y3, y4]) rfl ⟨.inr ⟨hno.out, rfl⟩, FB.out⟩
          ·
            obtain ⟨gz1, gz2⟩ := at_ge ho
            have hPl : Hid ((many (dpl l) k o6).1.length = k) := Lib.hid (many_len _ _ _)
            have hnext : Hid (many (dpl l) (k + 1) o6 = ((many (dpl l) k o6).1 ++ [(dpl l (many (dpl l) k o6).2).1], (dpl l (many (dpl l) k o6).2).2)) := Lib.hid rfl
            obtain ⟨⟨P, o⟩, hM⟩ := named (many (dpl l) k o6)
            rw [← hM.out] at hI hPl hnext hok gz1 gz2 ⊢
            simp only at hI hPl hnext hok gz1 gz2 ⊢
            replace hM := Lib.hid trivial
            obtain ⟨⟨a1, b1⟩, h1⟩ := named (dnum l o 3)
            have kb1 : Hid (OkAt l b1) := Lib.hid (by have := dnum_ok (most := 3) hok.out; rw [← h1.out] at this; exact this)
            obtain ⟨⟨a2, b2⟩, h2⟩ := named (dnum l b1 mostN)
            have kb2 : Hid (OkAt l b2) := Lib.hid (by have := dnum_ok (most := mostN) kb1.out; rw [← h2.out] at this; exact this)
            obtain ⟨⟨a3, b3⟩, h3⟩ := named (dnum l b2 262144)
            have kb3 : Hid (OkAt l b3) := Lib.hid (by have := dnum_ok (most := 262144) kb2.out; rw [← h3.out] at this; exact this)
            obtain ⟨⟨a4, b4⟩, h4⟩ := named (dnum l b3 262144)
            have kb4 : Hid (OkAt l b4) := Lib.hid (by have := dnum_ok (most := 262144) kb3.out; rw [← h4.out] at this; exact this)
            obtain ⟨⟨a5, b5⟩, h5⟩ := named (dtxt l b4)
            have kb5 : Hid (OkAt l b5) := Lib.hid (by have := dtxt_ok kb4.out; rw [← h5.out] at this; exact this)
            obtain ⟨⟨a6, b6⟩, h6⟩ := named (dtxt l b5)
            have kb6 : Hid (OkAt l b6) := Lib.hid (by have := dtxt_ok kb5.out; rw [← h6.out] at this; exact this)
            obtain ⟨⟨a7, b7⟩, h7⟩ := named (dnum l b6 mostN)
            have kb7 : Hid (OkAt l b7) := Lib.hid (by have := dnum_ok (most := mostN) kb6.out; rw [← h7.out] at this; exact this)
            obtain ⟨⟨a8, b8⟩, h8⟩ := named (dnum l b7 mostN)
            have kb8 : Hid (OkAt l b8) := Lib.hid (by have := dnum_ok (most := mostN) kb7.out; rw [← h8.out] at this; exact this)
            have q1 : a1 ≤ 3 := by have := dnum_le l o 3; rw [← h1.out] at this; exact this
            have wa1 := wr_i64n a1 (by omega)
            have q3 : a3 ≤ 262144 := by have := dnum_le l b2 262144; rw [← h3.out] at this; exact this
            have wa3 := wr_i64n a3 (by omega)
            have q4 : a4 ≤ 262144 := by have := dnum_le l b3 262144; rw [← h4.out] at this; exact this
            have wa4 := wr_i64n a4 (by omega)
            have G1 : Hid (∀ u, Calls Try.prog 40 #[.string s, .int .i64 (atI o), .int .u64 3] u fun e w' => e = .returned (.tuple #[.int .u64 (a1 : Int), .int .i64 (atI b1)]) ∧ u = w') := Lib.hid (fun u => by have := C3.out o u hok.out; rw [← h1.out] at this; exact this.mono fun _ _ h => ⟨h.1, h.2.symm⟩)
            have G2 : Hid (∀ u, Calls Try.prog 40 #[.string s, .int .i64 (atI b1), .int .u64 18446744073709551615] u fun e w' => e = .returned (.tuple #[.int .u64 (a2 : Int), .int .i64 (atI b2)]) ∧ u = w') := Lib.hid (fun u => by have := CN.out b1 u kb1.out; rw [← h2.out] at this; exact this.mono fun _ _ h => ⟨h.1, h.2.symm⟩)
            have G3 : Hid (∀ u, Calls Try.prog 40 #[.string s, .int .i64 (atI b2), .int .u64 262144] u fun e w' => e = .returned (.tuple #[.int .u64 (a3 : Int), .int .i64 (atI b3)]) ∧ u = w') := Lib.hid (fun u => by have := CR.out b2 u kb2.out; rw [← h3.out] at this; exact this.mono fun _ _ h => ⟨h.1, h.2.symm⟩)
            have G4 : Hid (∀ u, Calls Try.prog 40 #[.string s, .int .i64 (atI b3), .int .u64 262144] u fun e w' => e = .returned (.tuple #[.int .u64 (a4 : Int), .int .i64 (atI b4)]) ∧ u = w') := Lib.hid (fun u => by have := CR.out b3 u kb3.out; rw [← h4.out] at this; exact this.mono fun _ _ h => ⟨h.1, h.2.symm⟩)
            have G5 : Hid (∀ u, Calls Try.prog 41 #[.string s, .int .i64 (atI b4)] u fun e w' => e = .returned (.tuple #[.string ⟨a5.toArray⟩, .int .i64 (atI b5)]) ∧ u = w') := Lib.hid (fun u => by have := CT.out b4 u kb4.out; rw [← h5.out] at this; exact this.mono fun _ _ h => ⟨h.1, h.2.symm⟩)
            have G6 : Hid (∀ u, Calls Try.prog 41 #[.string s, .int .i64 (atI b5)] u fun e w' => e = .returned (.tuple #[.string ⟨a6.toArray⟩, .int .i64 (atI b6)]) ∧ u = w') := Lib.hid (fun u => by have := CT.out b5 u kb5.out; rw [← h6.out] at this; exact this.mono fun _ _ h => ⟨h.1, h.2.symm⟩)
            have G7 : Hid (∀ u, Calls Try.prog 40 #[.string s, .int .i64 (atI b6), .int .u64 18446744073709551615] u fun e w' => e = .returned (.tuple #[.int .u64 (a7 : Int), .int .i64 (atI b7)]) ∧ u = w') := Lib.hid (fun u => by have := CN.out b6 u kb6.out; rw [← h7.out] at this; exact this.mono fun _ _ h => ⟨h.1, h.2.symm⟩)
            have G8 : Hid (∀ u, Calls Try.prog 40 #[.string s, .int .i64 (atI b7), .int .u64 18446744073709551615] u fun e w' => e = .returned (.tuple #[.int .u64 (a8 : Int), .int .i64 (atI b8)]) ∧ u = w') := Lib.hid (fun u => by have := CN.out b7 u kb7.out; rw [← h8.out] at this; exact this.mono fun _ _ h => ⟨h.1, h.2.symm⟩)
            have hdg : Hid (dpl l o = (⟨(a1 : Int), ⟨a2, (a3 : Int), (a4 : Int), ⟨a5.toArray⟩, ⟨a6.toArray⟩, a7, a8⟩⟩, b8)) := Lib.hid (by unfold dpl dmeta; simp only; rw [← h1.out]; simp only; rw [← h2.out]; simp only; rw [← h3.out]; simp only; rw [← h4.out]; simp only; rw [← h5.out]; simp only; rw [← h6.out]; simp only; rw [← h7.out]; simp only; rw [← h8.out])
            rw [hdg.out] at hnext
            simp only at hnext
            replace h1 := Lib.hid trivial
            replace h2 := Lib.hid trivial
            replace h3 := Lib.hid trivial
            replace h4 := Lib.hid trivial
            replace h5 := Lib.hid trivial
            replace h6 := Lib.hid trivial
            replace h7 := Lib.hid trivial
            replace h8 := Lib.hid trivial
            obtain ⟨t1, t2, t3, rfl⟩ := own_shape hI.out.m.oa
            have hbd : Hid (P.length + 1 ≤ maxLen ∧ (P.length + 1) * 80 ≤ 140737488355328 ∧ (P.length + 1) * 16 ≤ 140737488355328) := Lib.hid (bound_app (by rw [hPl.out]; omega))
            have wj := Lib.hid (wr_u64s k (by omega))
            have PB := Lib.hid (heap_alloc_new wr (plB ⟨(a1 : Int), ⟨a2, (a3 : Int), (a4 : Int), ⟨a5.toArray⟩, ⟨a6.toArray⟩, a7, a8⟩⟩))
            have JJ := Lib.hid (hI.out.below (below_alloc wr (plB ⟨(a1 : Int), ⟨a2, (a3 : Int), (a4 : Int), ⟨a5.toArray⟩, ⟨a6.toArray⟩, a7, a8⟩⟩)))
            clear hdg CN C3 CB CR CT hPl ho eP eR q1 q3 q4 kb1 kb2 kb3 kb4 kb5 kb6 kb7 kb8
            go_upto_region 32 with (first
              | (go_at_call 40; ((with_reducible refine (G1.out _).mono ?_); rintro r w1 ⟨rfl, rfl⟩))
              | (go_at_call 40; ((with_reducible refine (G2.out _).mono ?_); rintro r w1 ⟨rfl, rfl⟩))
              | (go_at_call 40; ((with_reducible refine (G3.out _).mono ?_); rintro r w1 ⟨rfl, rfl⟩))
              | (go_at_call 40; ((with_reducible refine (G4.out _).mono ?_); rintro r w1 ⟨rfl, rfl⟩))
              | (go_at_call 41; ((with_reducible refine (G5.out _).mono ?_); rintro r w1 ⟨rfl, rfl⟩))
              | (go_at_call 41; ((with_reducible refine (G6.out _).mono ?_); rintro r w1 ⟨rfl, rfl⟩))
              | (go_at_call 40; ((with_reducible refine (G7.out _).mono ?_); rintro r w1 ⟨rfl, rfl⟩))
              | (go_at_call 40; ((with_reducible refine (G8.out _).mono ?_); rintro r w1 ⟨rfl, rfl⟩)))
            obtain ⟨u, hu⟩ := named (wr.alloc (plB ⟨(a1 : Int), ⟨a2, (a3 : Int), (a4 : Int), ⟨a5.toArray⟩, ⟨a6.toArray⟩, a7, a8⟩⟩))
            rw [← hu.out] at PB JJ
            simp only [plB] at hu
            rw [← hu.out]
            replace hu := Lib.hid trivial
            obtain ⟨x0, x1, x2, x3, x4, x5, x6, x7⟩ := pl_cells PB.out
            simp only at x0 x1 x2 x3 x4 x5 x6 x7
            obtain ⟨c0, c1, c2, c3, c4⟩ := JJ.out.m.cells
            have cf := JJ.out.m.frozen
            go_wp2_with (at_builtin; refine wpList_append_lies _ rfl _ _ 28 rfl (w.heap.size + 1 + 1) 62 tj (.agg #[.int .i64 0, .int .u64 0, .int .i64 0, .int .i64 0, .string .empty, .string .empty, .int .u64 0, .int .u64 0]) 8 80 Try.underlying28 hj hj0 hj1 hj2 rfl (by decide) (.slice t1 t2 t3) P.length (P.flatMap cellsP) (by rfl) (JJ.out.m.oa.alloc _) ⟨u.heap.size, 0, none⟩ 1 1 [.int .i64 (a1 : Int), .int .u64 (a2 : Int), .int .i64 (a3 : Int), .int .i64 (a4 : Int), .string ⟨a5.toArray⟩, .string ⟨a6.toArray⟩, .int .u64 (a7 : Int), .int .u64 (a8 : Int)] (by rfl) rfl (World.news_of_block (heap_alloc_new _ _)) (one_p ⟨(a1 : Int), ⟨a2, (a3 : Int), (a4 : Int), ⟨a5.toArray⟩, ⟨a6.toArray⟩, a7, a8⟩⟩) (by decide) hbd.out.1 hbd.out.2.1 (by rw [World.size_alloc]; have := JJ.out.m.big; omega) _ rfl ?_; intro g9 cap9 w9 hown9 hgrow9 hat9 _; have F9 := Lib.hid (JJ.out.addA (x := ⟨(a1 : Int), ⟨a2, (a3 : Int), (a4 : Int), ⟨a5.toArray⟩, ⟨a6.toArray⟩, a7, a8⟩⟩) hown9 hgrow9); obtain ⟨k9, f9⟩ := F9.out.2; clear hown9 hgrow9 hat9)
            go_roundw
            case rel => exact ⟨k + 1, by omega, by first | go_num | (rw [wj.out]; go_num), by rw [hnext.out], _, by rw [hnext.out]; exact Lib.hid F9.out.1⟩
            case measure => first | (simp [intOf]; omega) | (rw [wj.out]; simp [intOf]; omega)
        · obtain rfl : k = n6 := by omega
          have k0 : ¬ (k : Int) < (k : Int) := by omega
          obtain ⟨⟨P, o7⟩, h7⟩ := named (many (dpl l) k o6)
          rw [← h7.out] at hI eP eR ⊢
          simp only at hI eP eR ⊢
          replace h7 := Lib.hid trivial
          obtain ⟨t1, t2, t3, rfl⟩ := own_shape hI.out.m.oa
          clear CN C3 CB CR CT hok
          by_cases ho : o7 = some l.length
          · subst ho
            have gne := Lib.hid (at_some hlen.out)
            obtain ⟨hg, ha', v1, v2, hE, _, _⟩ := hI.out.m.at
            have LC := Lib.hid (rlisted_any hE)
            have HI := Lib.hid (fun u hu => hI.out.below (u := u) hu)
            obtain ⟨c0, c1, c2, c3, c4⟩ := hI.out.m.cells
            simp only at c0 c1 c2 c3 c4
            have FB2 : Hid (∀ u, Below wr.heap.size wr u → ∀ m0 m1 m2 m3 m4, Below w.heap.size w (((((u.setCell ⟨w.heap.size, 0, none⟩ m0).setCell ⟨w.heap.size, 1, none⟩ m1).setCell ⟨w.heap.size, 2, none⟩ m2).setCell ⟨w.heap.size, 3, none⟩ m3).setCell ⟨w.heap.size, 4, none⟩ m4)) := Lib.hid (fun u hu m0 m1 m2 m3 m4 => five_below (below_of hI.out.f hu) (Nat.le_refl _) _ _ _ _ _)
            simp only [hdV, edV] at LC v1 v2
            rw [← v1, ← v2] at LC
            replace v1 := Lib.hid v1
            replace v2 := Lib.hid v2
            obtain ⟨gn1, gn2⟩ := gne.out
            replace gne := Lib.hid trivial
            by_cases hL : ListedP ⟨n1, n2, n3, G, P⟩
            · have hyes : Hid (DecP l) := Lib.hid (by rw [eP.out]; exact ⟨rfl, hL⟩)
              rw [tf_true hL] at LC
              clear eP hL hE
              go_wp2_with (go_at_call 31; ((with_reducible refine LC.out.mono ?_); rintro r w9 ⟨rfl, hb9⟩; have D9 := Lib.hid (HI.out _ hb9); have B9 := Lib.hid (FB2.out _ hb9); clear hb9; obtain ⟨d0, d1, d2, d3, d4⟩ := D9.out.m.cells; obtain ⟨z0', z1', z2', z3', z4'⟩ := five_cells D9.out.z; have zf' := five_frozen D9.out.z))
              obtain ⟨y0, y1, y2, y3, y4⟩ := five_cells (five_put D9.out.z (.int .u64 (n1 : Int)) (.int .u64 (n2 : Int)) (.int .u64 (n3 : Int)) (.slice s1 s2 s3) (.slice t1 t2 t3))
              obtain ⟨hg', ha', v1', v2', E'⟩ := D9.out.m.put (N := w.heap.size) (by omega) (.int .u64 (n1 : Int)) (.int .u64 (n2 : Int)) (.int .u64 (n3 : Int)) (.slice s1 s2 s3) (.slice t1 t2 t3)
              refine bodyPost_ret (v := .tuple #[.agg #[.int .u64 (n1 : Int), .int .u64 (n2 : Int), .int .u64 (n3 : Int), .slice s1 s2 s3, .slice t1 t2 t3], .int .i64 0]) (by simp [results, Try.results20, go_sem, y0, y1, y2, y3, y4]) rfl ⟨.inl ⟨hyes.out, hg', ha', ?_, ?_⟩, B9.out _ _ _ _ _⟩
              · rw [eR.out]
                simp only [hdV] at v1' v2'
                simp only [edV]
                rw [← v1', ← v2']
              · rw [eR.out]; exact E'
            · have hno : Hid (¬ DecP l) := Lib.hid (by rw [eP.out]; exact fun h => hL h.2)
              rw [tf_false hL] at LC
              clear eP eR hL hE
              go_wp2_with (go_at_call 31; ((with_reducible refine LC.out.mono ?_); rintro r w9 ⟨rfl, hb9⟩; have D9 := Lib.hid (HI.out _ hb9); have B9 := Lib.hid (FB2.out _ hb9); clear hb9; obtain ⟨z0', z1', z2', z3', z4'⟩ := five_cells D9.out.z; have zf' := five_frozen D9.out.z))
              obtain ⟨y0, y1, y2, y3, y4⟩ := five_cells (five_put D9.out.z (.int .u64 0) (.int .u64 0) (.int .u64 0) (.slice none 0 0) (.slice none 0 0))
              exact bodyPost_ret (v := .tuple #[zEV, .int .i64 7]) (by simp [results, Try.results20, go_sem, y0, y1, y2, y3, y4]) rfl ⟨.inr ⟨hno.out, rfl⟩, B9.out _ _ _ _ _⟩
          · have hno : Hid (¬ DecP l) := Lib.hid (by rw [eP.out]; exact fun h => ho h.1)
            have gne := Lib.hid (at_none hlen.out ho)
            clear eP eR
            obtain ⟨z0, z1, z2, z3, z4⟩ := five_cells hI.out.z
            have zf := five_frozen hI.out.z
            have YC := Lib.hid (five_cells (five_put hI.out.z (.int .u64 0) (.int .u64 0) (.int .u64 0) (.slice none 0 0) (.slice none 0 0)))
            have FB := Lib.hid <| five_below hI.out.f (Nat.le_refl _) (.int .u64 0) (.int .u64 0) (.int .u64 0) (.slice none 0 0) (.slice none 0 0)
            obtain ⟨gn1, gn2⟩ := gne.out
            replace gne := Lib.hid trivial
            go_wp2_with fail
            obtain ⟨y0, y1, y2, y3, y4⟩ := YC.out
            exact bodyPost_ret (v := .tuple #[zEV, .int .i64 7]) (by simp [results, Try.results20, go_sem, y0, y1, y2, y3, y4]) rfl ⟨.inr ⟨hno.out, rfl⟩, FB.out⟩
end Go.Proofs.Ythkdijapmamdbaa
