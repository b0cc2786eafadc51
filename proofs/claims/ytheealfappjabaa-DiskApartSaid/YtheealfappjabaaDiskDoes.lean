/-
  A call of a script is done on a disk (does). Condition: names of at most 2^47 bytes, data of at most 2^46.
-/
import Derived.Test.YtheealfappjabaaIntsArg
namespace Go.Proofs.Ytheealfappjabaa
open Go.RowKit Go.Maps
attribute [local go_sem] eq_file ne_file ne_disk ne_map
/-- A call of a script, as it reads. -/
structure OpV where
  d : Int
  nm : ByteArray
  dt : ByteArray
  n : Int
  ca : Option Addr
  cn : Nat
  cc : Nat
def OpV.cells (x : OpV) : Array Value := #[.int .i64 x.d, .string x.nm, .string x.dt, .int .i64 x.n, .slice x.ca x.cn x.cc]
/-- What a call of a script makes of a disk: but not of the name. -/
def doesS (st : St) (x : OpV) (name : NameS) : St :=
  if x.nm.data.toList = name ∨ (x.d = 5 ∧ x.dt.data.toList = name) then st
  else if x.d = 1 then st.create x.nm.data.toList
  else if x.d = 2 then st.append x.nm.data.toList x.dt.data.toList
  else if x.d = 3 then st.sync x.nm.data.toList
  else if x.d = 4 then st.syncDir
  else if x.d = 5 then st.rename x.nm.data.toList x.dt.data.toList
  else if x.d = 6 then st.remove x.nm.data.toList
  else if x.d = 7 then st.fuseS x.n
  else st
theorem not_skip {x : OpV} {name : ByteArray} (hs : ¬ x.nm.toList = name.toList) (h : x.d = 5 → ¬ x.dt.toList = name.toList) : ¬ (x.nm.data.toList = name.data.toList ∨ (x.d = 5 ∧ x.dt.data.toList = name.data.toList)) := by
  rintro (e | ⟨e5, e⟩)
  · exact hs (by rw [ByteArray.toList_eq, e, ByteArray.toList_eq])
  · exact h e5 (by rw [ByteArray.toList_eq, e, ByteArray.toList_eq])
theorem LDid.stay {base p : Nat} {own : Own} {k : Int} {st : St} {w w' : World} (h : Live base own p k st w) (hb : Below w.heap.size w w') : LDid base own p (k + 1) st (.tuple #[]) w (.returned (.tuple #[])) w' :=
  ⟨own, rfl, (h.more (by omega)).keep (h.at'.below hb), Grow.of_below hb (Nat.le_refl _)⟩
set_option maxRecDepth 100000 in
set_option maxHeartbeats 2000000 in
theorem does_name {base p : Nat} {own : Own} {k : Int} {st : St} {w : World} (h : Live base own p k st w) (_hk : k ≤ 99999) (x : OpV) (_hnm : x.nm.size ≤ 140737488355328) (_hdt : x.dt.size ≤ 70368744177664) (_hn : x.n ≤ 9223372036854775807) (name : ByteArray) (hs : x.nm.toList = name.toList) :
    Calls Try.prog 11 #[at0 p, .agg x.cells, .string name] w (LDid base own p (k + 1) (doesS st x name.data.toList) (.tuple #[]) w) := by
  have E : doesS st x name.data.toList = st := by unfold doesS; rw [if_pos (.inl (by rw [← ByteArray.toList_eq, hs, ByteArray.toList_eq]))]
  rw [E]
  obtain ⟨d, nm, dt, n, ca, cn, cc⟩ := x
  simp only at hs
  have R := Lib.hid (LDid.stay h (below_alloc w (.cells (OpV.cells ⟨d, nm, dt, n, ca, cn, cc⟩) 31)))
  unfold OpV.cells at R ⊢
  clear E h
  go_enter Try.func11, Try.ntmps11
  go_wp2
  go_end0
  exact R.out
set_option maxRecDepth 100000 in
set_option maxHeartbeats 2000000 in
theorem does_data {base p : Nat} {own : Own} {k : Int} {st : St} {w : World} (h : Live base own p k st w) (_hk : k ≤ 99999) (x : OpV) (_hnm : x.nm.size ≤ 140737488355328) (_hdt : x.dt.size ≤ 70368744177664) (_hn : x.n ≤ 9223372036854775807) (name : ByteArray) (hs : ¬ x.nm.toList = name.toList) (h5 : x.d = 5) (hs2 : x.dt.toList = name.toList) :
    Calls Try.prog 11 #[at0 p, .agg x.cells, .string name] w (LDid base own p (k + 1) (doesS st x name.data.toList) (.tuple #[]) w) := by
  have E : doesS st x name.data.toList = st := by unfold doesS; rw [if_pos (.inr ⟨h5, by rw [← ByteArray.toList_eq, hs2, ByteArray.toList_eq]⟩)]
  rw [E]
  obtain ⟨d, nm, dt, n, ca, cn, cc⟩ := x
  simp only at hs h5 hs2
  subst h5
  have R := Lib.hid (LDid.stay h (below_alloc w (.cells (OpV.cells ⟨5, nm, dt, n, ca, cn, cc⟩) 31)))
  unfold OpV.cells at R ⊢
  clear E h
  go_enter Try.func11, Try.ntmps11
  go_wp2
  go_end0
  exact R.out
set_option maxRecDepth 100000 in
set_option maxHeartbeats 2000000 in
theorem does_1 {base p : Nat} {own : Own} {k : Int} {st : St} {w : World} (h : Live base own p k st w) (hk : k ≤ 99999) (x : OpV) (hnm : x.nm.size ≤ 140737488355328) (hdt : x.dt.size ≤ 70368744177664) (hn : x.n ≤ 9223372036854775807) (name : ByteArray) (hs : ¬ x.nm.toList = name.toList) (hd : x.d = 1) :
    Calls Try.prog 11 #[at0 p, .agg x.cells, .string name] w (LDid base own p (k + 1) (doesS st x name.data.toList) (.tuple #[]) w) := by
  have E : doesS st x name.data.toList = st.create x.nm.data.toList := by
    unfold doesS
    rw [if_neg (not_skip hs fun e5 => (by rw [hd] at e5; omega)), if_pos hd]
  rw [E]
  clear E
  obtain ⟨d, nm, dt, n, ca, cn, cc⟩ := x
  simp only at hs hd hnm hdt hn
  subst hd
  have hsb : (nm.toList == name.toList) = false := by simpa using hs
  have hb := Lib.hid (below_alloc w (.cells (OpV.cells ⟨1, nm, dt, n, ca, cn, cc⟩) 31))
  have hl : Live base own p k st (w.alloc (.cells (OpV.cells ⟨1, nm, dt, n, ca, cn, cc⟩) 31)) := h.keep (h.at'.below hb.out)
  have C := Lib.hid (live_create hl hk nm hnm)
  unfold OpV.cells at C hb ⊢
  clear hl hnm hdt hn h
  go_enter Try.func11, Try.ntmps11
  go_wp2_with (go_at_call 12; refine C.out.mono ?_; intro e w' hL; obtain ⟨o', rfl, l', g'⟩ := hL)
  go_end0
  exact ⟨o', rfl, l', (Grow.of_below hb.out (Nat.le_refl _)).trans g'⟩
set_option maxRecDepth 100000 in
set_option maxHeartbeats 2000000 in
theorem does_2 {base p : Nat} {own : Own} {k : Int} {st : St} {w : World} (h : Live base own p k st w) (hk : k ≤ 99999) (x : OpV) (hnm : x.nm.size ≤ 140737488355328) (hdt : x.dt.size ≤ 70368744177664) (hn : x.n ≤ 9223372036854775807) (name : ByteArray) (hs : ¬ x.nm.toList = name.toList) (hd : x.d = 2) :
    Calls Try.prog 11 #[at0 p, .agg x.cells, .string name] w (LDid base own p (k + 1) (doesS st x name.data.toList) (.tuple #[]) w) := by
  have E : doesS st x name.data.toList = st.append x.nm.data.toList x.dt.data.toList := by
    unfold doesS
    rw [if_neg (not_skip hs fun e5 => (by rw [hd] at e5; omega)), if_neg (by rw [hd]; decide), if_pos hd]
  rw [E]
  clear E
  obtain ⟨d, nm, dt, n, ca, cn, cc⟩ := x
  simp only at hs hd hnm hdt hn
  subst hd
  have hsb : (nm.toList == name.toList) = false := by simpa using hs
  have hb := Lib.hid (below_alloc w (.cells (OpV.cells ⟨2, nm, dt, n, ca, cn, cc⟩) 31))
  have hl : Live base own p k st (w.alloc (.cells (OpV.cells ⟨2, nm, dt, n, ca, cn, cc⟩) 31)) := h.keep (h.at'.below hb.out)
  have C := Lib.hid (live_append hl hk nm dt hnm hdt)
  unfold OpV.cells at C hb ⊢
  clear hl hnm hdt hn h
  go_enter Try.func11, Try.ntmps11
  go_wp2_with (go_at_call 13; refine C.out.mono ?_; intro e w' hL; obtain ⟨o', rfl, l', g'⟩ := hL)
  go_end0
  exact ⟨o', rfl, l', (Grow.of_below hb.out (Nat.le_refl _)).trans g'⟩
set_option maxRecDepth 100000 in
set_option maxHeartbeats 2000000 in
theorem does_3 {base p : Nat} {own : Own} {k : Int} {st : St} {w : World} (h : Live base own p k st w) (hk : k ≤ 99999) (x : OpV) (hnm : x.nm.size ≤ 140737488355328) (hdt : x.dt.size ≤ 70368744177664) (hn : x.n ≤ 9223372036854775807) (name : ByteArray) (hs : ¬ x.nm.toList = name.toList) (hd : x.d = 3) :
    Calls Try.prog 11 #[at0 p, .agg x.cells, .string name] w (LDid base own p (k + 1) (doesS st x name.data.toList) (.tuple #[]) w) := by
  have E : doesS st x name.data.toList = st.sync x.nm.data.toList := by
    unfold doesS
    rw [if_neg (not_skip hs fun e5 => (by rw [hd] at e5; omega)), if_neg (by rw [hd]; decide), if_neg (by rw [hd]; decide), if_pos hd]
  rw [E]
  clear E
  obtain ⟨d, nm, dt, n, ca, cn, cc⟩ := x
  simp only at hs hd hnm hdt hn
  subst hd
  have hsb : (nm.toList == name.toList) = false := by simpa using hs
  have hb := Lib.hid (below_alloc w (.cells (OpV.cells ⟨3, nm, dt, n, ca, cn, cc⟩) 31))
  have hl : Live base own p k st (w.alloc (.cells (OpV.cells ⟨3, nm, dt, n, ca, cn, cc⟩) 31)) := h.keep (h.at'.below hb.out)
  have C := Lib.hid (live_sync hl hk nm hnm)
  unfold OpV.cells at C hb ⊢
  clear hl hnm hdt hn h
  go_enter Try.func11, Try.ntmps11
  go_wp2_with (go_at_call 14; refine C.out.mono ?_; intro e w' hL; obtain ⟨o', rfl, l', g'⟩ := hL)
  go_end0
  exact ⟨o', rfl, l', (Grow.of_below hb.out (Nat.le_refl _)).trans g'⟩
set_option maxRecDepth 100000 in
set_option maxHeartbeats 2000000 in
theorem does_4 {base p : Nat} {own : Own} {k : Int} {st : St} {w : World} (h : Live base own p k st w) (hk : k ≤ 99999) (x : OpV) (hnm : x.nm.size ≤ 140737488355328) (hdt : x.dt.size ≤ 70368744177664) (hn : x.n ≤ 9223372036854775807) (name : ByteArray) (hs : ¬ x.nm.toList = name.toList) (hd : x.d = 4) :
    Calls Try.prog 11 #[at0 p, .agg x.cells, .string name] w (LDid base own p (k + 1) (doesS st x name.data.toList) (.tuple #[]) w) := by
  have E : doesS st x name.data.toList = st.syncDir := by
    unfold doesS
    rw [if_neg (not_skip hs fun e5 => (by rw [hd] at e5; omega)), if_neg (by rw [hd]; decide), if_neg (by rw [hd]; decide), if_neg (by rw [hd]; decide), if_pos hd]
  rw [E]
  clear E
  obtain ⟨d, nm, dt, n, ca, cn, cc⟩ := x
  simp only at hs hd hnm hdt hn
  subst hd
  have hsb : (nm.toList == name.toList) = false := by simpa using hs
  have hb := Lib.hid (below_alloc w (.cells (OpV.cells ⟨4, nm, dt, n, ca, cn, cc⟩) 31))
  have hl : Live base own p k st (w.alloc (.cells (OpV.cells ⟨4, nm, dt, n, ca, cn, cc⟩) 31)) := h.keep (h.at'.below hb.out)
  have C := Lib.hid (live_syncDir hl hk)
  unfold OpV.cells at C hb ⊢
  clear hl hnm hdt hn h
  go_enter Try.func11, Try.ntmps11
  go_wp2_with (go_at_call 15; refine C.out.mono ?_; intro e w' hL; obtain ⟨o', rfl, l', g'⟩ := hL)
  go_end0
  exact ⟨o', rfl, l', (Grow.of_below hb.out (Nat.le_refl _)).trans g'⟩
set_option maxRecDepth 100000 in
set_option maxHeartbeats 2000000 in
theorem does_5 {base p : Nat} {own : Own} {k : Int} {st : St} {w : World} (h : Live base own p k st w) (hk : k ≤ 99999) (x : OpV) (hnm : x.nm.size ≤ 140737488355328) (hdt : x.dt.size ≤ 70368744177664) (hn : x.n ≤ 9223372036854775807) (name : ByteArray) (hs : ¬ x.nm.toList = name.toList) (hd : x.d = 5) (hs2 : ¬ x.dt.toList = name.toList) :
    Calls Try.prog 11 #[at0 p, .agg x.cells, .string name] w (LDid base own p (k + 1) (doesS st x name.data.toList) (.tuple #[]) w) := by
  have E : doesS st x name.data.toList = st.rename x.nm.data.toList x.dt.data.toList := by
    unfold doesS
    rw [if_neg (not_skip hs fun _ => hs2), if_neg (by rw [hd]; decide), if_neg (by rw [hd]; decide), if_neg (by rw [hd]; decide), if_neg (by rw [hd]; decide), if_pos hd]
  rw [E]
  clear E
  obtain ⟨d, nm, dt, n, ca, cn, cc⟩ := x
  simp only at hs hd hnm hdt hn hs2
  subst hd
  have hsb : (nm.toList == name.toList) = false := by simpa using hs
  have hsb2 : (dt.toList == name.toList) = false := by simpa using hs2
  have hb := Lib.hid (below_alloc w (.cells (OpV.cells ⟨5, nm, dt, n, ca, cn, cc⟩) 31))
  have hl : Live base own p k st (w.alloc (.cells (OpV.cells ⟨5, nm, dt, n, ca, cn, cc⟩) 31)) := h.keep (h.at'.below hb.out)
  have C := Lib.hid (live_rename hl hk nm dt hnm (by omega))
  unfold OpV.cells at C hb ⊢
  clear hl hnm hdt hn h
  go_enter Try.func11, Try.ntmps11
  go_wp2_with (go_at_call 19; refine C.out.mono ?_; intro e w' hL; obtain ⟨o', rfl, l', g'⟩ := hL)
  go_end0
  exact ⟨o', rfl, l', (Grow.of_below hb.out (Nat.le_refl _)).trans g'⟩
set_option maxRecDepth 100000 in
set_option maxHeartbeats 2000000 in
theorem does_6 {base p : Nat} {own : Own} {k : Int} {st : St} {w : World} (h : Live base own p k st w) (hk : k ≤ 99999) (x : OpV) (hnm : x.nm.size ≤ 140737488355328) (hdt : x.dt.size ≤ 70368744177664) (hn : x.n ≤ 9223372036854775807) (name : ByteArray) (hs : ¬ x.nm.toList = name.toList) (hd : x.d = 6) :
    Calls Try.prog 11 #[at0 p, .agg x.cells, .string name] w (LDid base own p (k + 1) (doesS st x name.data.toList) (.tuple #[]) w) := by
  have E : doesS st x name.data.toList = st.remove x.nm.data.toList := by
    unfold doesS
    rw [if_neg (not_skip hs fun e5 => (by rw [hd] at e5; omega)), if_neg (by rw [hd]; decide), if_neg (by rw [hd]; decide), if_neg (by rw [hd]; decide), if_neg (by rw [hd]; decide), if_neg (by rw [hd]; decide), if_pos hd]
  rw [E]
  clear E
  obtain ⟨d, nm, dt, n, ca, cn, cc⟩ := x
  simp only at hs hd hnm hdt hn
  subst hd
  have hsb : (nm.toList == name.toList) = false := by simpa using hs
  have hb := Lib.hid (below_alloc w (.cells (OpV.cells ⟨6, nm, dt, n, ca, cn, cc⟩) 31))
  have hl : Live base own p k st (w.alloc (.cells (OpV.cells ⟨6, nm, dt, n, ca, cn, cc⟩) 31)) := h.keep (h.at'.below hb.out)
  have C := Lib.hid (live_remove hl hk nm hnm)
  unfold OpV.cells at C hb ⊢
  clear hl hnm hdt hn h
  go_enter Try.func11, Try.ntmps11
  go_wp2_with (go_at_call 24; refine C.out.mono ?_; intro e w' hL; obtain ⟨o', rfl, l', g'⟩ := hL)
  go_end0
  exact ⟨o', rfl, l', (Grow.of_below hb.out (Nat.le_refl _)).trans g'⟩
set_option maxRecDepth 100000 in
set_option maxHeartbeats 2000000 in
theorem does_7 {base p : Nat} {own : Own} {k : Int} {st : St} {w : World} (h : Live base own p k st w) (_hk : k ≤ 99999) (x : OpV) (hnm : x.nm.size ≤ 140737488355328) (hdt : x.dt.size ≤ 70368744177664) (hn : x.n ≤ 9223372036854775807) (name : ByteArray) (hs : ¬ x.nm.toList = name.toList) (hd : x.d = 7) :
    Calls Try.prog 11 #[at0 p, .agg x.cells, .string name] w (LDid base own p (k + 1) (doesS st x name.data.toList) (.tuple #[]) w) := by
  have E : doesS st x name.data.toList = st.fuseS x.n := by
    unfold doesS
    rw [if_neg (not_skip hs fun e5 => (by rw [hd] at e5; omega)), if_neg (by rw [hd]; decide), if_neg (by rw [hd]; decide), if_neg (by rw [hd]; decide), if_neg (by rw [hd]; decide), if_neg (by rw [hd]; decide), if_neg (by rw [hd]; decide), if_pos hd]
  rw [E]
  clear E
  obtain ⟨d, nm, dt, n, ca, cn, cc⟩ := x
  simp only at hs hd hnm hdt hn
  subst hd
  have hsb : (nm.toList == name.toList) = false := by simpa using hs
  have hb := Lib.hid (below_alloc w (.cells (OpV.cells ⟨7, nm, dt, n, ca, cn, cc⟩) 31))
  have hl : Live base own p k st (w.alloc (.cells (OpV.cells ⟨7, nm, dt, n, ca, cn, cc⟩) 31)) := h.keep (h.at'.below hb.out)
  have C := Lib.hid (live_fuse hl n hn)
  unfold OpV.cells at C hb ⊢
  clear hl hnm hdt hn h
  go_enter Try.func11, Try.ntmps11
  go_wp2_with (go_at_call 22; refine C.out.mono ?_; intro e w' hL; obtain ⟨o', rfl, l', g'⟩ := hL)
  go_end0
  exact ⟨o', rfl, l', (Grow.of_below hb.out (Nat.le_refl _)).trans g'⟩
set_option maxRecDepth 100000 in
set_option maxHeartbeats 2000000 in
theorem does_none {base p : Nat} {own : Own} {k : Int} {st : St} {w : World} (h : Live base own p k st w) (_hk : k ≤ 99999) (x : OpV) (_hnm : x.nm.size ≤ 140737488355328) (_hdt : x.dt.size ≤ 70368744177664) (_hn : x.n ≤ 9223372036854775807) (name : ByteArray) (hs : ¬ x.nm.toList = name.toList) (hd : x.d < 1 ∨ 7 < x.d) :
    Calls Try.prog 11 #[at0 p, .agg x.cells, .string name] w (LDid base own p (k + 1) (doesS st x name.data.toList) (.tuple #[]) w) := by
  have E : doesS st x name.data.toList = st := by
    unfold doesS
    rw [if_neg (not_skip hs fun e5 => (by omega))]
    rw [if_neg (by omega), if_neg (by omega), if_neg (by omega), if_neg (by omega), if_neg (by omega), if_neg (by omega), if_neg (by omega)]
  rw [E]
  clear E
  obtain ⟨d, nm, dt, n, ca, cn, cc⟩ := x
  simp only at hs hd
  have hsb : (nm.toList == name.toList) = false := by simpa using hs
  have n1 : (d == 1) = false := by rw [beq_eq_false_iff_ne]; omega
  have n2 : (d == 2) = false := by rw [beq_eq_false_iff_ne]; omega
  have n3 : (d == 3) = false := by rw [beq_eq_false_iff_ne]; omega
  have n4 : (d == 4) = false := by rw [beq_eq_false_iff_ne]; omega
  have n5 : (d == 5) = false := by rw [beq_eq_false_iff_ne]; omega
  have n6 : (d == 6) = false := by rw [beq_eq_false_iff_ne]; omega
  have n7 : (d == 7) = false := by rw [beq_eq_false_iff_ne]; omega
  have R := Lib.hid (LDid.stay h (below_alloc w (.cells (OpV.cells ⟨d, nm, dt, n, ca, cn, cc⟩) 31)))
  unfold OpV.cells at R ⊢
  clear h hd
  go_enter Try.func11, Try.ntmps11
  go_wp2
  go_end0
  exact R.out
theorem does_any {base p : Nat} {own : Own} {k : Int} {st : St} {w : World} (h : Live base own p k st w) (hk : k ≤ 99999) (x : OpV) (hnm : x.nm.size ≤ 140737488355328) (hdt : x.dt.size ≤ 70368744177664) (hn : x.n ≤ 9223372036854775807) (name : ByteArray) :
    Calls Try.prog 11 #[at0 p, .agg x.cells, .string name] w (LDid base own p (k + 1) (doesS st x name.data.toList) (.tuple #[]) w) := by
  by_cases hs : x.nm.toList = name.toList
  · exact does_name h hk x hnm hdt hn name hs
  · by_cases h5 : x.d = 5
    · by_cases hs2 : x.dt.toList = name.toList
      · exact does_data h hk x hnm hdt hn name hs h5 hs2
      · exact does_5 h hk x hnm hdt hn name hs h5 hs2
    · by_cases h1 : x.d = 1
      · exact does_1 h hk x hnm hdt hn name hs h1
      · by_cases h2 : x.d = 2
        · exact does_2 h hk x hnm hdt hn name hs h2
        · by_cases h3 : x.d = 3
          · exact does_3 h hk x hnm hdt hn name hs h3
          · by_cases h4 : x.d = 4
            · exact does_4 h hk x hnm hdt hn name hs h4
            · by_cases h6 : x.d = 6
              · exact does_6 h hk x hnm hdt hn name hs h6
              · by_cases h7 : x.d = 7
                · exact does_7 h hk x hnm hdt hn name hs h7
                · exact does_none h hk x hnm hdt hn name hs (by omega)
end Go.Proofs.Ytheealfappjabaa
