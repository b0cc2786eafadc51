/-
  The program's reader: advance, number, upTo, level, key. Condition: a text that came in.
-/
import Derived.Test.YtkkedofbnmjgeaaCodeUint
import Derived.Test.YtkkedofbnmjgeaaCodeField
namespace Go.Proofs.Ytkkedofbnmjgeaa
set_option maxRecDepth 100000
open Go.RowKit
/-- Block b is a reader before the text s; f: has it failed? -/
structure RdrAt (w : World) (b : Nat) (s : ByteArray) (f : Bool) : Prop where
  c0 : w.cell? ⟨b, 0, none⟩ = some (.string s)
  c1 : w.cell? ⟨b, 1, none⟩ = some (.bool f)
  f0 : w.frozen? ⟨b, 0, none⟩ = false
  f1 : w.frozen? ⟨b, 1, none⟩ = false
theorem RdrAt.lt {w : World} {b : Nat} {s : ByteArray} {f : Bool} (h : RdrAt w b s f) : b < w.heap.size := World.block_lt_of_cell? _ _ h.c0
theorem RdrAt.below {B b : Nat} {w w' : World} {s : ByteArray} {f : Bool} (h : RdrAt w b s f) (hb : Below B w w') (hB : b < B) : RdrAt w' b s f :=
  ⟨(hb.cell (p := ⟨b, 0, none⟩) hB).trans h.c0, (hb.cell (p := ⟨b, 1, none⟩) hB).trans h.c1, (hb.frozen (p := ⟨b, 0, none⟩) hB).trans h.f0, (hb.frozen (p := ⟨b, 1, none⟩) hB).trans h.f1⟩
theorem RdrAt.drew {w : World} {b : Nat} {s : ByteArray} {f : Bool} (h : RdrAt w b s f) : RdrAt w.drew b s f := ⟨h.c0, h.c1, h.f0, h.f1⟩
theorem RdrAt.set0 {w : World} {b : Nat} {s : ByteArray} {f : Bool} (h : RdrAt w b s f) (t : ByteArray) : RdrAt (w.setCell ⟨b, 0, none⟩ (.string t)) b t f :=
  ⟨World.cell?_setCell_same _ _ _ h.c0, by rw [World.cell?_setCell_other _ _ _ _ (by simp)]; exact h.c1, (World.frozen?_setCell _ _ _ _).trans h.f0, (World.frozen?_setCell _ _ _ _).trans h.f1⟩
theorem RdrAt.set1 {w : World} {b : Nat} {s : ByteArray} {f : Bool} (h : RdrAt w b s f) (g : Bool) : RdrAt (w.setCell ⟨b, 1, none⟩ (.bool g)) b s g :=
  ⟨by rw [World.cell?_setCell_other _ _ _ _ (by simp)]; exact h.c0, World.cell?_setCell_same _ _ _ h.c1, (World.frozen?_setCell _ _ _ _).trans h.f0, (World.frozen?_setCell _ _ _ _).trans h.f1⟩
set_option maxRecDepth 100000 in
set_option maxHeartbeats 4000000 in
theorem adv_ok (s : ByteArray) (hs : s.size ≤ reachBytes) (f : Bool) (b k : Nat) (hk : k ≤ s.size) (w : World) (h : RdrAt w b s f) : Calls Try.prog 65 #[.pointer (some ⟨b, 0, none⟩), .int .i64 (k : Int), .int .i64 0] w fun e w' => e = .returned (.tuple #[]) ∧ RdrAt w' b (s.extract k s.size) f ∧ But b w w' := by
  have hs' := reach_max hs
  have hmx : s.size ≤ 9223372036854775807 := by unfold maxLen at hs'; omega
  have g1 : ¬ ((k : Nat) : Int) < 0 := by omega
  have g2 : ((k : Nat) : Int) ≤ (s.size : Int) := by omega
  obtain ⟨h0, h1, f0, f1⟩ := h
  clear hs hs'
  go_enter Try.func65, Try.ntmps65
  go_wp2_with fail
  go_returns
  exact ⟨rfl, RdrAt.set0 ⟨h0, h1, f0, f1⟩ _, (But.refl b w).setCell (p := ⟨b, 0, none⟩) rfl _⟩
set_option maxRecDepth 100000 in
set_option maxHeartbeats 4000000 in
theorem adv_bad (s : ByteArray) (hs : s.size ≤ reachBytes) (f : Bool) (b : Nat) (k : Int) (er : Nat) (he : er ≠ 0) (w : World) (h : RdrAt w b s f) : Calls Try.prog 65 #[.pointer (some ⟨b, 0, none⟩), .int .i64 k, .int .i64 (er : Int)] w fun e w' => e = .returned (.tuple #[]) ∧ RdrAt w' b (s.extract s.size s.size) true ∧ But b w w' := by
  have hs' := reach_max hs
  have hmx : s.size ≤ 9223372036854775807 := by unfold maxLen at hs'; omega
  have g1 : ¬ ((s.size : Nat) : Int) < 0 := by omega
  have g5 : ((er : Int) != 0) = true := by rw [bne_iff_ne]; omega
  have g6 : ¬ (er : Int) = 0 := by omega
  have H1 := h.set1 true
  obtain ⟨h0, h1, f0, f1⟩ := h
  obtain ⟨k0, k1, l0, l1⟩ := H1
  clear hs hs' he
  go_enter Try.func65, Try.ntmps65
  go_wp2_with fail
  go_returns
  exact ⟨rfl, RdrAt.set0 ⟨k0, k1, l0, l1⟩ _, ((But.refl b w).setCell (p := ⟨b, 1, none⟩) rfl _).setCell (p := ⟨b, 0, none⟩) rfl _⟩
/-- What number reads, and where the reader stands behind it. -/
def rnum (s : ByteArray) (f : Bool) : Nat × ByteArray × Bool :=
  if (Code.rd 0 s.data.toList).2.2 = 0 then ((Code.rd 0 s.data.toList).1, s.extract (Code.rd 0 s.data.toList).2.1 s.size, f) else (0, s.extract s.size s.size, true)
/-- What key reads. -/
def rkey (s : ByteArray) (f : Bool) : List UInt8 × ByteArray × Bool :=
  if (Code.rdField s.data.toList 520).2.2 = 0 then ((Code.rdField s.data.toList 520).1, s.extract (Code.rdField s.data.toList 520).2.1 s.size, f) else ([], s.extract s.size s.size, true)
/-- What upTo reads. -/
def rup (s : ByteArray) (f : Bool) (most : Nat) : Nat × ByteArray × Bool :=
  if (rnum s f).1 ≤ most then rnum s f else (0, (rnum s f).2.1.extract (rnum s f).2.1.size (rnum s f).2.1.size, true)
theorem ext_size (s : ByteArray) (a : Nat) : (s.extract a s.size).size ≤ s.size := by rw [ByteArray.size_extract]; omega
theorem rnum_size (s : ByteArray) (f : Bool) : (rnum s f).2.1.size ≤ s.size := by
  unfold rnum
  split <;> exact ext_size _ _
theorem rkey_size (s : ByteArray) (f : Bool) : (rkey s f).2.1.size ≤ s.size := by
  unfold rkey
  split <;> exact ext_size _ _
theorem rup_size (s : ByteArray) (f : Bool) (most : Nat) : (rup s f most).2.1.size ≤ s.size := by
  have := rnum_size s f
  unfold rup
  split
  · exact this
  · exact Nat.le_trans (ext_size _ _) this
set_option maxRecDepth 100000 in
set_option maxHeartbeats 4000000 in
theorem rnum_any (s : ByteArray) (hs : s.size ≤ reachBytes) (f : Bool) (b : Nat) (w : World) (h : RdrAt w b s f) : Calls Try.prog 37 #[.pointer (some ⟨b, 0, none⟩)] w fun e w' => e = .returned (.int .u64 ((rnum s f).1 : Int)) ∧ RdrAt w' b (rnum s f).2.1 (rnum s f).2.2 ∧ But b w w' := by
  have hs' := reach_max hs
  have UR := uint_any s hs' w
  have hk := Code.rd_size s.data.toList
  have hE := Code.rd_err 0 s.data.toList
  have hlen : s.data.toList.length = s.size := by rw [Array.length_toList]; rfl
  rw [hlen] at hk
  unfold rnum
  obtain ⟨⟨n, k, er⟩, hR⟩ := named (Code.rd 0 s.data.toList)
  rw [← hR.out] at UR hE hk ⊢
  simp only at UR hE hk ⊢
  replace hR := Lib.hid trivial
  replace UR := Lib.hid UR
  by_cases he : er = 0
  · subst he
    simp only [if_true]
    have AD := Lib.hid (fun u (hu : RdrAt u b s f) => adv_ok s hs f b k hk u hu)
    obtain ⟨h0, h1, f0, f1⟩ := h
    have hh := Lib.hid (RdrAt.mk h0 h1 f0 f1)
    clear hs hs' hE
    go_enter Try.func37, Try.ntmps37
    go_wp2_with (first
      | (go_at_call 64; ((with_reducible refine UR.out.mono ?_); rintro r w1 ⟨rfl, hb1⟩; have B1 := Lib.hid (But.of_below (b := b) hb1 (Nat.le_refl _)); have R1 := Lib.hid (hh.out.below hb1 hh.out.lt); clear hb1))
      | (go_at_call 65; ((with_reducible refine (AD.out _ R1.out).mono ?_); rintro r w2 ⟨rfl, hr2, hb2⟩; have B2 := Lib.hid (B1.out.trans hb2); have R2 := Lib.hid hr2; clear hr2 hb2)))
    go_returns
    exact ⟨rfl, R2.out, B2.out⟩
  · rw [if_neg he]
    obtain ⟨_, hn, hk0⟩ := hE.resolve_left he
    subst hn
    subst hk0
    have AD := Lib.hid (fun u (hu : RdrAt u b s f) => adv_bad s hs f b 0 er he u hu)
    obtain ⟨h0, h1, f0, f1⟩ := h
    have hh := Lib.hid (RdrAt.mk h0 h1 f0 f1)
    clear hs hs' hE
    go_enter Try.func37, Try.ntmps37
    go_wp2_with (first
      | (go_at_call 64; ((with_reducible refine UR.out.mono ?_); rintro r w1 ⟨rfl, hb1⟩; have B1 := Lib.hid (But.of_below (b := b) hb1 (Nat.le_refl _)); have R1 := Lib.hid (hh.out.below hb1 hh.out.lt); clear hb1))
      | (go_at_call 65; ((with_reducible refine (AD.out _ R1.out).mono ?_); rintro r w2 ⟨rfl, hr2, hb2⟩; have B2 := Lib.hid (B1.out.trans hb2); have R2 := Lib.hid hr2; clear hr2 hb2)))
    go_returns
    exact ⟨rfl, R2.out, B2.out⟩
theorem rdf_fail (l : List UInt8) (x : Int) : (Code.rdField l x).2.1 ≤ l.length ∧ ((Code.rdField l x).2.2 = 0 ∨ ((Code.rdField l x).1 = [] ∧ (Code.rdField l x).2.1 = 0)) := by
  have hk := Code.rd_size l
  unfold Code.rdField
  split
  · exact ⟨by simp, .inr ⟨rfl, rfl⟩⟩
  split
  · exact ⟨by simp, .inr ⟨rfl, rfl⟩⟩
  split
  · exact ⟨by simp, .inr ⟨rfl, rfl⟩⟩
  · exact ⟨by simp only; omega, .inl rfl⟩
set_option maxRecDepth 100000 in
set_option maxHeartbeats 4000000 in
theorem rkey_any (s : ByteArray) (hs : s.size ≤ reachBytes) (f : Bool) (b : Nat) (w : World) (h : RdrAt w b s f) : Calls Try.prog 66 #[.pointer (some ⟨b, 0, none⟩)] w fun e w' => e = .returned (.string ⟨(rkey s f).1.toArray⟩) ∧ RdrAt w' b (rkey s f).2.1 (rkey s f).2.2 ∧ But b w w' := by
  have hs' := reach_max hs
  have UR := field_any s hs 520 (by omega) w
  obtain ⟨hk, hE⟩ := rdf_fail s.data.toList 520
  have hlen : s.data.toList.length = s.size := by rw [Array.length_toList]; rfl
  rw [hlen] at hk
  unfold rkey
  obtain ⟨⟨n, k, er⟩, hR⟩ := named (Code.rdField s.data.toList 520)
  rw [← hR.out] at UR hE hk ⊢
  simp only at UR hE hk ⊢
  replace hR := Lib.hid trivial
  replace UR := Lib.hid UR
  by_cases he : er = 0
  · subst he
    simp only [if_true]
    have AD := Lib.hid (fun u (hu : RdrAt u b s f) => adv_ok s hs f b k hk u hu)
    obtain ⟨h0, h1, f0, f1⟩ := h
    have hh := Lib.hid (RdrAt.mk h0 h1 f0 f1)
    clear hs hs' hE
    go_enter Try.func66, Try.ntmps66
    go_wp2_with (first
      | (go_at_call 78; ((with_reducible refine UR.out.mono ?_); rintro r w1 ⟨rfl, hb1⟩; have B1 := Lib.hid (But.of_below (b := b) hb1 (Nat.le_refl _)); have R1 := Lib.hid (hh.out.below hb1 hh.out.lt); clear hb1))
      | (go_at_call 65; ((with_reducible refine (AD.out _ R1.out).mono ?_); rintro r w2 ⟨rfl, hr2, hb2⟩; have B2 := Lib.hid (B1.out.trans hb2); have R2 := Lib.hid hr2; clear hr2 hb2)))
    go_returns
    exact ⟨rfl, R2.out, B2.out⟩
  · rw [if_neg he]
    obtain ⟨hn, hk0⟩ := hE.resolve_left he
    subst hn
    subst hk0
    have AD := Lib.hid (fun u (hu : RdrAt u b s f) => adv_bad s hs f b 0 er he u hu)
    obtain ⟨h0, h1, f0, f1⟩ := h
    have hh := Lib.hid (RdrAt.mk h0 h1 f0 f1)
    clear hs hs' hE
    go_enter Try.func66, Try.ntmps66
    go_wp2_with (first
      | (go_at_call 78; ((with_reducible refine UR.out.mono ?_); rintro r w1 ⟨rfl, hb1⟩; have B1 := Lib.hid (But.of_below (b := b) hb1 (Nat.le_refl _)); have R1 := Lib.hid (hh.out.below hb1 hh.out.lt); clear hb1))
      | (go_at_call 65; ((with_reducible refine (AD.out _ R1.out).mono ?_); rintro r w2 ⟨rfl, hr2, hb2⟩; have B2 := Lib.hid (B1.out.trans hb2); have R2 := Lib.hid hr2; clear hr2 hb2)))
    go_returns
    exact ⟨rfl, R2.out, B2.out⟩
set_option maxRecDepth 100000 in
set_option maxHeartbeats 4000000 in
theorem rup_any (s : ByteArray) (hs : s.size ≤ reachBytes) (f : Bool) (most : Nat) (hm : most ≤ 1000000) (b : Nat) (w : World) (h : RdrAt w b s f) : Calls Try.prog 38 #[.pointer (some ⟨b, 0, none⟩), .int .i64 (most : Int)] w fun e w' => e = .returned (.int .i64 ((rup s f most).1 : Int)) ∧ RdrAt w' b (rup s f most).2.1 (rup s f most).2.2 ∧ But b w w' := by
  have NU := rnum_any s hs f b w h
  have hz := rnum_size s f
  have w5 : IntKind.u64.wrap (most : Int) = (most : Int) := by rw [IntKind.wrap_u64]; omega
  unfold rup
  obtain ⟨⟨n, t, g⟩, hR⟩ := named (rnum s f)
  rw [← hR.out] at NU hz ⊢
  simp only at NU hz ⊢
  replace hR := Lib.hid trivial
  replace NU := Lib.hid NU
  by_cases hn : n ≤ most
  · rw [if_pos hn]
    have g4 : ¬ (most : Int) < (n : Int) := by omega
    have w6 : IntKind.i64.wrap (n : Int) = (n : Int) := by rw [IntKind.wrap_i64]; omega
    clear hs h hn hz
    go_enter Try.func38, Try.ntmps38
    go_wp2_with (go_at_call 37; ((with_reducible refine NU.out.mono ?_); rintro r w1 ⟨rfl, hr1, hb1⟩; have B1 := Lib.hid hb1; have R1 := Lib.hid hr1; clear hr1 hb1))
    go_returns
    exact ⟨rfl, R1.out, B1.out⟩
  · rw [if_neg hn]
    have g4 : (most : Int) < (n : Int) := by omega
    have AD : Hid (∀ u, RdrAt u b t g → Calls Try.prog 65 #[.pointer (some ⟨b, 0, none⟩), .int .i64 0, .int .i64 3] u fun e w' => e = .returned (.tuple #[]) ∧ RdrAt w' b (t.extract t.size t.size) true ∧ But b u w') := Lib.hid (fun u hu => adv_bad t (by omega) g b 0 3 (by omega) u hu)
    clear hs h hn hz
    go_enter Try.func38, Try.ntmps38
    go_wp2_with (first
      | (go_at_call 37; ((with_reducible refine NU.out.mono ?_); rintro r w1 ⟨rfl, hr1, hb1⟩; have B1 := Lib.hid hb1; have R1 := Lib.hid hr1; clear hr1 hb1))
      | (go_at_call 65; ((with_reducible refine (AD.out _ R1.out).mono ?_); rintro r w2 ⟨rfl, hr2, hb2⟩; have B2 := Lib.hid (B1.out.trans hb2); have R2 := Lib.hid hr2; clear hr2 hb2)))
    go_returns
    exact ⟨rfl, R2.out, B2.out⟩
set_option maxRecDepth 100000 in
set_option maxHeartbeats 4000000 in
theorem rlevel_any (s : ByteArray) (hs : s.size ≤ reachBytes) (f : Bool) (b : Nat) (w : World) (h : RdrAt w b s f) : Calls Try.prog 39 #[.pointer (some ⟨b, 0, none⟩)] w fun e w' => e = .returned (.int .i64 ((rup s f 3).1 : Int)) ∧ RdrAt w' b (rup s f 3).2.1 (rup s f 3).2.2 ∧ But b w w' := by
  have UP : Hid (Calls Try.prog 38 #[.pointer (some ⟨b, 0, none⟩), .int .i64 3] w fun e w' => e = .returned (.int .i64 ((rup s f 3).1 : Int)) ∧ RdrAt w' b (rup s f 3).2.1 (rup s f 3).2.2 ∧ But b w w') := Lib.hid (rup_any s hs f 3 (by omega) b w h)
  obtain ⟨R, hR⟩ := named (rup s f 3)
  rw [← hR.out] at UP ⊢
  replace hR := Lib.hid trivial
  clear hs h
  go_enter Try.func39, Try.ntmps39
  go_wp2_with (go_at_call 38; ((with_reducible refine UP.out.mono ?_); rintro r w1 ⟨rfl, hr1, hb1⟩; have B1 := Lib.hid hb1; have R1 := Lib.hid hr1; clear hr1 hb1))
  go_returns
  exact ⟨rfl, R1.out, B1.out⟩
end Go.Proofs.Ytkkedofbnmjgeaa
