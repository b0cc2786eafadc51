/-
  DiskAtOnce: a name to which a synced file is renamed has, behind a crash, the one's bytes or the other's. No condition.
-/
import Derived.Test.YtkmobhbbodajcaaIntsArg
namespace Go.Proofs.Ytkmobhbbodajcaa
open Go.RowKit Go.Maps
attribute [local go_sem] eq_file ne_file ne_disk ne_map
theorem ret0 {base : Nat} {own : Own} {p : Nat} {k : Int} {st : St} {w : World} {e : Ending} {w' : World} {E : Int} (h : LDid base own p k st (.int .i64 E) w e w') (hE : E = 0) : LDid base own p k st (.int .i64 0) w e w' := hE ▸ h
theorem eq_disk (q : Option Addr) (w : World) : (binOp .eql 26 (.pointer q) (.pointer none)).run Try.prog w = .ok (.bool q.isNone) w := run_eql_pointer_nil _ _ _ (by kernel_rfl)
attribute [local go_sem] eq_disk
theorem enc_eq (l : List UInt8) (s : ByteArray) (h : l = s.data.toList) : (⟨l.toArray⟩ : ByteArray) = s := by subst h; rfl
set_option maxRecDepth 100000 in
set_option maxHeartbeats 4000000 in
theorem atOnce_false (x : ByteArray) (hx1 : x.size ≤ 2000) (y : ByteArray) (hy1 : y.size ≤ 2000) (ca : Option Addr) (cn cc cb : Nat) (cs : List Int) (w : World) (hI : IntsAt cb (.slice ca cn cc) cs w) :
    Calls Try.prog 4 #[.string x, .string y, .bool false, .slice ca cn cc] w fun e w' => e = .returned (.bool true) ∧ Below w.heap.size w w' := by
  have AW := fun u => Lib.hid (awake_any u)
  obtain ⟨X, hX⟩ := named x.data.toList
  obtain ⟨Y, hY⟩ := named y.data.toList
  have hx2 : X.length ≤ 2000 := by rw [hX.out, Array.length_toList]; exact hx1
  have hy2 : Y.length ≤ 2000 := by rw [hY.out, Array.length_toList]; exact hy1
  have hxd : decide ((2000 : Int) < (x.size : Int)) = false := by rw [decide_eq_false_iff_not]; omega
  have hyd : decide ((2000 : Int) < (y.size : Int)) = false := by rw [decide_eq_false_iff_not]; omega
  have N := Lib.hid (live_new 268435456 (by decide) (by decide) w (Nat.le_refl _))
  have hcl := Lib.hid (fun hne => hI.lt hne)
  have hI := Lib.hid hI
  go_enter Try.func4, Try.ntmps4
  go_wp2_with fail
  refine N.out.mono ?_
  rintro e w0 ⟨own0, p, rfl, l0, b0, f0⟩
  have l0 := Lib.hid l0
  have B0 := Lib.hid b0
  have f0 := Lib.hid f0
  clear b0
  have C1 : Hid (Calls Try.prog 12 #[at0 p, .string ⟨#[111, 110, 101]⟩] w0 (LDid w.heap.size own0 p 1 ao1 (.int .i64 0) w0)) := Lib.hid ((live_create (k := 0) l0.out (by decide) ⟨#[111, 110, 101]⟩ (by decide)).mono fun _ _ h => ret0 h rfl)
  go_wp2_with fail
  refine C1.out.mono ?_
  rintro e w1 ⟨own1, rfl, l1, g1⟩
  have l1 := Lib.hid l1
  have B1 := Lib.hid (B0.out.trans (g1.below l0.out.at' B0.out.size))
  clear g1 C1
  have C2 : Hid (Calls Try.prog 13 #[at0 p, .string ⟨#[111, 110, 101]⟩, .string x] w1 (LDid w.heap.size own1 p 2 (ao2 X) (.int .i64 0) w1)) := Lib.hid ((live_append (k := 1) l1.out (by decide) ⟨#[111, 110, 101]⟩ x (by decide) (by omega)).mono fun _ _ h => (by rw [← hX.out] at h; exact ret0 h (ao2_eq _ hx2).2))
  go_wp2_with fail
  refine C2.out.mono ?_
  rintro e w2 ⟨own2, rfl, l2, g2⟩
  have l2 := Lib.hid l2
  have B2 := Lib.hid (B1.out.trans (g2.below l1.out.at' B1.out.size))
  clear g2 C2
  have C3 : Hid (Calls Try.prog 14 #[at0 p, .string ⟨#[111, 110, 101]⟩] w2 (LDid w.heap.size own2 p 3 (ao3 X) (.int .i64 0) w2)) := Lib.hid ((live_sync (k := 2) l2.out (by decide) ⟨#[111, 110, 101]⟩ (by decide)).mono fun _ _ h => ret0 h (by rw [(ao2_eq _ hx2).1]; rfl))
  go_wp2_with fail
  refine C3.out.mono ?_
  rintro e w3 ⟨own3, rfl, l3, g3⟩
  have l3 := Lib.hid l3
  have B3 := Lib.hid (B2.out.trans (g3.below l2.out.at' B2.out.size))
  clear g3 C3
  have C4 : Hid (Calls Try.prog 12 #[at0 p, .string ⟨#[116, 119, 111]⟩] w3 (LDid w.heap.size own3 p 4 (ao4 X) (.int .i64 0) w3)) := Lib.hid ((live_create (k := 3) l3.out (by decide) ⟨#[116, 119, 111]⟩ (by decide)).mono fun _ _ h => ret0 h (by rw [ao3_eq _ hx2]; rfl))
  go_wp2_with fail
  refine C4.out.mono ?_
  rintro e w4 ⟨own4, rfl, l4, g4⟩
  have l4 := Lib.hid l4
  have B4 := Lib.hid (B3.out.trans (g4.below l3.out.at' B3.out.size))
  clear g4 C4
  have C5 : Hid (Calls Try.prog 13 #[at0 p, .string ⟨#[116, 119, 111]⟩, .string y] w4 (LDid w.heap.size own4 p 5 (ao5 X Y) (.int .i64 0) w4)) := Lib.hid ((live_append (k := 4) l4.out (by decide) ⟨#[116, 119, 111]⟩ y (by decide) (by omega)).mono fun _ _ h => (by rw [← hY.out] at h; exact ret0 h (ao5_eq _ _ hx2 hy2).2))
  go_wp2_with fail
  refine C5.out.mono ?_
  rintro e w5 ⟨own5, rfl, l5, g5⟩
  have l5 := Lib.hid l5
  have B5 := Lib.hid (B4.out.trans (g5.below l4.out.at' B4.out.size))
  clear g5 C5
  have C6 : Hid (Calls Try.prog 14 #[at0 p, .string ⟨#[116, 119, 111]⟩] w5 (LDid w.heap.size own5 p 6 (ao6 X Y) (.int .i64 0) w5)) := Lib.hid ((live_sync (k := 5) l5.out (by decide) ⟨#[116, 119, 111]⟩ (by decide)).mono fun _ _ h => ret0 h (by rw [(ao5_eq _ _ hx2 hy2).1]; rfl))
  go_wp2_with fail
  refine C6.out.mono ?_
  rintro e w6 ⟨own6, rfl, l6, g6⟩
  have l6 := Lib.hid l6
  have B6 := Lib.hid (B5.out.trans (g6.below l5.out.at' B5.out.size))
  clear g6 C6
  have C7 : Hid (Calls Try.prog 15 #[at0 p] w6 (LDid w.heap.size own6 p 7 (ao7 X Y) (.int .i64 0) w6)) := Lib.hid ((live_syncDir (k := 6) l6.out (by decide)  ).mono fun _ _ h => ret0 h (by rw [ao6_eq _ _ hx2 hy2]; rfl))
  go_wp2_with fail
  refine C7.out.mono ?_
  rintro e w7 ⟨own7, rfl, l7, g7⟩
  have l7 := Lib.hid l7
  have B7 := Lib.hid (B6.out.trans (g7.below l6.out.at' B6.out.size))
  clear g7 C7
  have C8 : Hid (Calls Try.prog 19 #[at0 p, .string ⟨#[116, 119, 111]⟩, .string ⟨#[111, 110, 101]⟩] w7 (LDid w.heap.size own7 p 8 (ao8 X Y) (.int .i64 0) w7)) := Lib.hid ((live_rename (k := 7) l7.out (by decide) ⟨#[116, 119, 111]⟩ ⟨#[111, 110, 101]⟩ (by decide) (by decide)).mono fun _ _ h => ret0 h (by rw [ao7_eq _ _ hx2 hy2]; rfl))
  go_wp2_with fail
  refine C8.out.mono ?_
  rintro e w8 ⟨own8, rfl, l8, g8⟩
  have l8 := Lib.hid l8
  have B8 := Lib.hid (B7.out.trans (g8.below l7.out.at' B7.out.size))
  clear g8 C8
  have hco : Hid (cs ≠ [] → own8 cb = none) := Lib.hid fun hne => (by
    cases e : own8 cb with
    | none => rfl
    | some r => exact absurd (l8.out.at'.lo cb (by simp [e])).1 (by have := hcl.out hne; omega))
  have hI2 : Hid (IntsAt cb (.slice ca cn cc) cs w8) := Lib.hid (hI.out.keep fun hne => B8.out.block cb (hcl.out hne))
  have CC : Hid (Calls Try.prog 16 #[at0 p, .slice ca cn cc] w8 (LDid w.heap.size own8 p 9 ((ao8 X Y).crash cs) (.tuple #[]) w8)) := Lib.hid (live_crash (k := 8) l8.out (by decide) hI2.out hco.out)
  go_wp2_with fail
  refine CC.out.mono ?_
  rintro e wc ⟨ownc, rfl, lc, gc⟩
  have lc := Lib.hid lc
  have Bc := Lib.hid (B8.out.trans (gc.below l8.out.at' B8.out.size))
  clear gc CC
  have EN := Lib.hid (ao_loose X Y hx2 hy2 cs)
  generalize (ao8 X Y).crash cs = SS at *
  obtain ⟨z1, z2⟩ := EN.out
  have R1 : Hid (Calls Try.prog 17 #[at0 p, .string ⟨#[111, 110, 101]⟩] wc fun e w' => e = .returned (.tuple #[.string ⟨(SS.readS nOne).toArray⟩, .int .i64 (SS.readE nOne)]) ∧ wc = w') := Lib.hid (read_any lc.out.at' ⟨#[111, 110, 101]⟩ (by decide))
  have R2 : Hid (Calls Try.prog 17 #[at0 p, .string ⟨#[116, 119, 111]⟩] wc fun e w' => e = .returned (.tuple #[.string ⟨(SS.readS nTwo).toArray⟩, .int .i64 (SS.readE nTwo)]) ∧ wc = w') := Lib.hid (read_any lc.out.at' ⟨#[116, 119, 111]⟩ (by decide))
  rw [z1] at R1
  have eX := enc_eq X x hX.out
  have eY := enc_eq Y y hY.out
  rcases z2 with ⟨y1, y2, y3⟩ | ⟨y0, y1, y2, y3⟩
  all_goals (try (exact absurd ‹true = false› (by decide)))
  all_goals
    rw [y1] at R1
    rw [y2, y3] at R2
    first | (rw [eX] at R1; rw [eY] at R2) | rw [eY] at R1
    clear eX eY z1 y1 y2 y3 EN
    go_wp2_with fail
    refine R1.out.mono ?_
    rintro e wd ⟨rfl, rfl⟩
    go_wp2_with fail
    refine R2.out.mono ?_
    rintro e we ⟨rfl, rfl⟩
    go_wp2_with (go_at_call 9; refine (AW _).out.mono ?_; rintro e w' ⟨rfl, hb⟩)
    all_goals first
      | (go_returns; exact ⟨rfl, Bc.out.trans (hb.mono Bc.out.size)⟩)
      | (exfalso; simp_all; done)
set_option maxRecDepth 100000 in
set_option maxHeartbeats 4000000 in
theorem atOnce_true (x : ByteArray) (hx1 : x.size ≤ 2000) (y : ByteArray) (hy1 : y.size ≤ 2000) (ca : Option Addr) (cn cc cb : Nat) (cs : List Int) (w : World) (hI : IntsAt cb (.slice ca cn cc) cs w) :
    Calls Try.prog 4 #[.string x, .string y, .bool true, .slice ca cn cc] w fun e w' => e = .returned (.bool true) ∧ Below w.heap.size w w' := by
  have AW := fun u => Lib.hid (awake_any u)
  obtain ⟨X, hX⟩ := named x.data.toList
  obtain ⟨Y, hY⟩ := named y.data.toList
  have hx2 : X.length ≤ 2000 := by rw [hX.out, Array.length_toList]; exact hx1
  have hy2 : Y.length ≤ 2000 := by rw [hY.out, Array.length_toList]; exact hy1
  have hxd : decide ((2000 : Int) < (x.size : Int)) = false := by rw [decide_eq_false_iff_not]; omega
  have hyd : decide ((2000 : Int) < (y.size : Int)) = false := by rw [decide_eq_false_iff_not]; omega
  have N := Lib.hid (live_new 268435456 (by decide) (by decide) w (Nat.le_refl _))
  have hcl := Lib.hid (fun hne => hI.lt hne)
  have hI := Lib.hid hI
  go_enter Try.func4, Try.ntmps4
  go_wp2_with fail
  refine N.out.mono ?_
  rintro e w0 ⟨own0, p, rfl, l0, b0, f0⟩
  have l0 := Lib.hid l0
  have B0 := Lib.hid b0
  have f0 := Lib.hid f0
  clear b0
  have C1 : Hid (Calls Try.prog 12 #[at0 p, .string ⟨#[111, 110, 101]⟩] w0 (LDid w.heap.size own0 p 1 ao1 (.int .i64 0) w0)) := Lib.hid ((live_create (k := 0) l0.out (by decide) ⟨#[111, 110, 101]⟩ (by decide)).mono fun _ _ h => ret0 h rfl)
  go_wp2_with fail
  refine C1.out.mono ?_
  rintro e w1 ⟨own1, rfl, l1, g1⟩
  have l1 := Lib.hid l1
  have B1 := Lib.hid (B0.out.trans (g1.below l0.out.at' B0.out.size))
  clear g1 C1
  have C2 : Hid (Calls Try.prog 13 #[at0 p, .string ⟨#[111, 110, 101]⟩, .string x] w1 (LDid w.heap.size own1 p 2 (ao2 X) (.int .i64 0) w1)) := Lib.hid ((live_append (k := 1) l1.out (by decide) ⟨#[111, 110, 101]⟩ x (by decide) (by omega)).mono fun _ _ h => (by rw [← hX.out] at h; exact ret0 h (ao2_eq _ hx2).2))
  go_wp2_with fail
  refine C2.out.mono ?_
  rintro e w2 ⟨own2, rfl, l2, g2⟩
  have l2 := Lib.hid l2
  have B2 := Lib.hid (B1.out.trans (g2.below l1.out.at' B1.out.size))
  clear g2 C2
  have C3 : Hid (Calls Try.prog 14 #[at0 p, .string ⟨#[111, 110, 101]⟩] w2 (LDid w.heap.size own2 p 3 (ao3 X) (.int .i64 0) w2)) := Lib.hid ((live_sync (k := 2) l2.out (by decide) ⟨#[111, 110, 101]⟩ (by decide)).mono fun _ _ h => ret0 h (by rw [(ao2_eq _ hx2).1]; rfl))
  go_wp2_with fail
  refine C3.out.mono ?_
  rintro e w3 ⟨own3, rfl, l3, g3⟩
  have l3 := Lib.hid l3
  have B3 := Lib.hid (B2.out.trans (g3.below l2.out.at' B2.out.size))
  clear g3 C3
  have C4 : Hid (Calls Try.prog 12 #[at0 p, .string ⟨#[116, 119, 111]⟩] w3 (LDid w.heap.size own3 p 4 (ao4 X) (.int .i64 0) w3)) := Lib.hid ((live_create (k := 3) l3.out (by decide) ⟨#[116, 119, 111]⟩ (by decide)).mono fun _ _ h => ret0 h (by rw [ao3_eq _ hx2]; rfl))
  go_wp2_with fail
  refine C4.out.mono ?_
  rintro e w4 ⟨own4, rfl, l4, g4⟩
  have l4 := Lib.hid l4
  have B4 := Lib.hid (B3.out.trans (g4.below l3.out.at' B3.out.size))
  clear g4 C4
  have C5 : Hid (Calls Try.prog 13 #[at0 p, .string ⟨#[116, 119, 111]⟩, .string y] w4 (LDid w.heap.size own4 p 5 (ao5 X Y) (.int .i64 0) w4)) := Lib.hid ((live_append (k := 4) l4.out (by decide) ⟨#[116, 119, 111]⟩ y (by decide) (by omega)).mono fun _ _ h => (by rw [← hY.out] at h; exact ret0 h (ao5_eq _ _ hx2 hy2).2))
  go_wp2_with fail
  refine C5.out.mono ?_
  rintro e w5 ⟨own5, rfl, l5, g5⟩
  have l5 := Lib.hid l5
  have B5 := Lib.hid (B4.out.trans (g5.below l4.out.at' B4.out.size))
  clear g5 C5
  have C6 : Hid (Calls Try.prog 14 #[at0 p, .string ⟨#[116, 119, 111]⟩] w5 (LDid w.heap.size own5 p 6 (ao6 X Y) (.int .i64 0) w5)) := Lib.hid ((live_sync (k := 5) l5.out (by decide) ⟨#[116, 119, 111]⟩ (by decide)).mono fun _ _ h => ret0 h (by rw [(ao5_eq _ _ hx2 hy2).1]; rfl))
  go_wp2_with fail
  refine C6.out.mono ?_
  rintro e w6 ⟨own6, rfl, l6, g6⟩
  have l6 := Lib.hid l6
  have B6 := Lib.hid (B5.out.trans (g6.below l5.out.at' B5.out.size))
  clear g6 C6
  have C7 : Hid (Calls Try.prog 15 #[at0 p] w6 (LDid w.heap.size own6 p 7 (ao7 X Y) (.int .i64 0) w6)) := Lib.hid ((live_syncDir (k := 6) l6.out (by decide)  ).mono fun _ _ h => ret0 h (by rw [ao6_eq _ _ hx2 hy2]; rfl))
  go_wp2_with fail
  refine C7.out.mono ?_
  rintro e w7 ⟨own7, rfl, l7, g7⟩
  have l7 := Lib.hid l7
  have B7 := Lib.hid (B6.out.trans (g7.below l6.out.at' B6.out.size))
  clear g7 C7
  have C8 : Hid (Calls Try.prog 19 #[at0 p, .string ⟨#[116, 119, 111]⟩, .string ⟨#[111, 110, 101]⟩] w7 (LDid w.heap.size own7 p 8 (ao8 X Y) (.int .i64 0) w7)) := Lib.hid ((live_rename (k := 7) l7.out (by decide) ⟨#[116, 119, 111]⟩ ⟨#[111, 110, 101]⟩ (by decide) (by decide)).mono fun _ _ h => ret0 h (by rw [ao7_eq _ _ hx2 hy2]; rfl))
  go_wp2_with fail
  refine C8.out.mono ?_
  rintro e w8 ⟨own8, rfl, l8, g8⟩
  have l8 := Lib.hid l8
  have B8 := Lib.hid (B7.out.trans (g8.below l7.out.at' B7.out.size))
  clear g8 C8
  have C9 : Hid (Calls Try.prog 15 #[at0 p] w8 (LDid w.heap.size own8 p 9 (ao8 X Y).syncDir (.int .i64 0) w8)) := Lib.hid ((live_syncDir (k := 8) l8.out (by decide)  ).mono fun _ _ h => ret0 h (by rw [ao8_eq _ _ hx2 hy2]; rfl))
  go_wp2_with fail
  refine C9.out.mono ?_
  rintro e w9 ⟨own9, rfl, l9, g9⟩
  have l9 := Lib.hid l9
  have B9 := Lib.hid (B8.out.trans (g9.below l8.out.at' B8.out.size))
  clear g9 C9
  have hco : Hid (cs ≠ [] → own9 cb = none) := Lib.hid fun hne => (by
    cases e : own9 cb with
    | none => rfl
    | some r => exact absurd (l9.out.at'.lo cb (by simp [e])).1 (by have := hcl.out hne; omega))
  have hI2 : Hid (IntsAt cb (.slice ca cn cc) cs w9) := Lib.hid (hI.out.keep fun hne => B9.out.block cb (hcl.out hne))
  have CC : Hid (Calls Try.prog 16 #[at0 p, .slice ca cn cc] w9 (LDid w.heap.size own9 p 10 ((ao8 X Y).syncDir.crash cs) (.tuple #[]) w9)) := Lib.hid (live_crash (k := 9) l9.out (by decide) hI2.out hco.out)
  go_wp2_with fail
  refine CC.out.mono ?_
  rintro e wc ⟨ownc, rfl, lc, gc⟩
  have lc := Lib.hid lc
  have Bc := Lib.hid (B9.out.trans (gc.below l9.out.at' B9.out.size))
  clear gc CC
  have EN := Lib.hid (ao_sure X Y hx2 hy2 cs)
  generalize (ao8 X Y).syncDir.crash cs = SS at *
  obtain ⟨z1, z2⟩ := EN.out
  have R1 : Hid (Calls Try.prog 17 #[at0 p, .string ⟨#[111, 110, 101]⟩] wc fun e w' => e = .returned (.tuple #[.string ⟨(SS.readS nOne).toArray⟩, .int .i64 (SS.readE nOne)]) ∧ wc = w') := Lib.hid (read_any lc.out.at' ⟨#[111, 110, 101]⟩ (by decide))
  have R2 : Hid (Calls Try.prog 17 #[at0 p, .string ⟨#[116, 119, 111]⟩] wc fun e w' => e = .returned (.tuple #[.string ⟨(SS.readS nTwo).toArray⟩, .int .i64 (SS.readE nTwo)]) ∧ wc = w') := Lib.hid (read_any lc.out.at' ⟨#[116, 119, 111]⟩ (by decide))
  rw [z1] at R1
  have eX := enc_eq X x hX.out
  have eY := enc_eq Y y hY.out
  rcases z2 with ⟨y1, y2, y3⟩ | ⟨y0, y1, y2, y3⟩
  all_goals (try (exact absurd ‹true = false› (by decide)))
  all_goals
    rw [y1] at R1
    rw [y2, y3] at R2
    first | (rw [eX] at R1; rw [eY] at R2) | rw [eY] at R1
    clear eX eY z1 y1 y2 y3 EN
    go_wp2_with fail
    refine R1.out.mono ?_
    rintro e wd ⟨rfl, rfl⟩
    go_wp2_with fail
    refine R2.out.mono ?_
    rintro e we ⟨rfl, rfl⟩
    go_wp2_with (go_at_call 9; refine (AW _).out.mono ?_; rintro e w' ⟨rfl, hb⟩)
    all_goals first
      | (go_returns; exact ⟨rfl, Bc.out.trans (hb.mono Bc.out.size)⟩)
      | (exfalso; simp_all; done)
set_option maxRecDepth 100000 in
theorem atOnce_long (x y : ByteArray) (sure : Bool) (ca : Option Addr) (cn cc : Nat) (w : World) (h : 2000 < x.size ∨ (x.size ≤ 2000 ∧ 2000 < y.size)) :
    Calls Try.prog 4 #[.string x, .string y, .bool sure, .slice ca cn cc] w fun e w' => e = .returned (.bool true) ∧ Below w.heap.size w w' := by
  have AW := fun u => Lib.hid (awake_any u)
  rcases h with h | ⟨h1, h⟩
  · have hxd : decide ((2000 : Int) < (x.size : Int)) = true := by rw [decide_eq_true_eq]; omega
    go_enter Try.func4, Try.ntmps4
    go_wp2_with (go_at_call 9; refine (AW _).out.mono ?_; rintro e w' ⟨rfl, hb⟩)
    go_returns
    exact ⟨rfl, hb⟩
  · have hxd : decide ((2000 : Int) < (x.size : Int)) = false := by rw [decide_eq_false_iff_not]; omega
    have hyd : decide ((2000 : Int) < (y.size : Int)) = true := by rw [decide_eq_true_eq]; omega
    go_enter Try.func4, Try.ntmps4
    go_wp2_with (go_at_call 9; refine (AW _).out.mono ?_; rintro e w' ⟨rfl, hb⟩)
    go_returns
    exact ⟨rfl, hb⟩
theorem atOnce_walk (x : ByteArray) (_hx : x.size ≤ reachBytes) (y : ByteArray) (_hy : y.size ≤ reachBytes) (sure : Bool) (ca : Option Addr) (cn cc cb : Nat) (cs : List Int) (w : World) (hI : IntsAt cb (.slice ca cn cc) cs w) :
    Calls Try.prog 4 #[.string x, .string y, .bool sure, .slice ca cn cc] w fun e w' => e = .returned (.bool true) ∧ Below w.heap.size w w' := by
  by_cases hx1 : x.size ≤ 2000
  · by_cases hy1 : y.size ≤ 2000
    · cases sure
      · exact atOnce_false x hx1 y hy1 ca cn cc cb cs w hI
      · exact atOnce_true x hx1 y hy1 ca cn cc cb cs w hI
    · exact atOnce_long x y sure ca cn cc w (.inr ⟨hx1, by omega⟩)
  · exact atOnce_long x y sure ca cn cc w (.inl (by omega))
--LAW freshetlaw05.DiskAtOnce atOnce_walk string:one string:two bool:sure ints:cs
--BEGIN
namespace DiskAtOnceProof
open Go.ChangeShapes Go.WideShapes Go.ChangeAt Go.RowKit
open Go.ChangeMaps (open_string shut_string)
theorem own : ownKnob Try.prog.godebug = none := by kernel_rfl
set_option maxRecDepth 100000 in
theorem lifted (os : Os) (started : os.Started) (H : Type) (enc : TypeId × Value → H) :
    ReturnsInHanded {} Try.checked os 4 .any (Rows.diskAtOnceSpec.pre6 enc Try.prog Try.f4 Rows.diskAtOnceRow.domain false) (Rows.diskAtOnceSpec.post enc Try.prog Try.f4 false true false false) := by
  refine returnsInHanded_of_change_sized (C := Try.checked) own started (by kernel_rfl) Try.func4
    (ChangeSpec.witness6 (enc := enc) (C := Try.checked) false ⟨#[], #[.string .empty, .string .empty, .bool false, .slice none 0 0], []⟩ 8 (by kernel_rfl) (by kernel_rfl) (by kernel_rfl) (by kernel_rfl)) ?_
  intro W base args ds gs before hval0 hW _ hsz _
  have hval : ∀ (j : Nat) t v, Try.f4.params[j]? = some t → args[j]? = some v → Value.okWide Try.prog W .any base t v := hval0
  have hW' := hW
  obtain ⟨p, q, hA0, hV, rfl, hfz, hnd⟩ := hW
  have hA : DataW.TrodAll enc Try.prog W 0 (fun _ => true) true Try.f4.params.toList args.toList ds p := hA0
  rw [Try.params4] at hA hval hsz
  obtain ⟨v0, vs0, d0, ds0, p0, q0, hargs, rfl, rfl, h0, r0⟩ := trodAll_cons hA
  obtain ⟨v1, vs1, d1, ds1, p1, q1, rfl, rfl, rfl, h1, r1⟩ := trodAll_cons r0
  obtain ⟨v2, vs2, d2, ds2, p2, q2, rfl, rfl, rfl, h2, r2⟩ := trodAll_cons r1
  obtain ⟨v3, vs3, d3, ds3, p3, q3, rfl, rfl, rfl, h3, r3⟩ := trodAll_cons r2
  obtain ⟨rfl, rfl, rfl⟩ := trodAll_nil r3
  obtain rfl : args = #[v0, v1, v2, v3] := by cases args; simp_all
  obtain ⟨rfl, rfl⟩ := trodVars_none hV
  obtain ⟨one, rfl, rfl, rfl, m0⟩ := open_string Try.underlying9 (hval 0 9 v0 rfl rfl) h0
  obtain ⟨two, rfl, rfl, rfl, m1⟩ := open_string Try.underlying9 (hval 1 9 v1 rfl rfl) h1
  obtain ⟨sure, rfl, rfl, rfl⟩ := open_bool Try.underlying4 (hval 2 4 v2 rfl rfl) h2
  obtain ⟨a3, n3, c3, rfl⟩ := okWide_slice Try.underlying23 (hval 3 23 v3 rfl rfl)
  have k3 := h3
  obtain ⟨fu3, hf3⟩ := h3
  obtain ⟨b3, cs, ia3⟩ := open_ints_arg hf3
  have lt3 : ∀ x ∈ p3, x.block < W.heap.size := fun x hx => hW'.lt x (by simp only [List.mem_append]; simp [hx])
  have z0 : one.size ≤ reachBytes := by have := sized_string hsz (j := 0) (t := 9) (bytes := one.data.toList) rfl rfl; simpa using this
  have z1 : two.size ≤ reachBytes := by have := sized_string hsz (j := 1) (t := 9) (bytes := two.data.toList) rfl rfl; simpa using this
  clear hA0 hval0
  simp only [List.append_nil] at hW'
  refine (atOnce_walk one z0 two z1 sure a3 n3 c3 b3 cs W ia3).mono fun e W' ⟨he, hg⟩ => ?_
  subst he
  exact ⟨_, rfl, _, _, _, [], _, [], hW', (trodAll_cons_mk (shut_bool Try.underlying4 _) trodAll_mk0), (trodAll_cons_mk (shut_string Try.underlying9 m0) (trodAll_cons_mk (shut_string Try.underlying9 m1) (trodAll_cons_mk (shut_bool Try.underlying4 _) (trodAll_cons_mk (Below.trod laid_out (by kernel_rfl) (of_decide_eq_true (by kernel_rfl)) k3 hg lt3) trodAll_mk0)))), rfl, hg.frame _, fun h => by cases h⟩
theorem holds : Rows.DiskAtOnceSaid :=
  OpenClaim.holds_of_wide 4 Try.f4 rfl rfl rfl rfl rfl rfl rfl ⟨rfl, rfl, rfl, rfl, rfl⟩ rfl rfl rfl rfl rfl (by kernel_rfl) Try.func4 (by kernel_rfl)
    (of_decide_eq_true (by kernel_rfl)) (by unfold Func.isWrapper; first | (rw [if_pos (by decide +kernel)]; kernel_rfl) | (rw [if_neg (by decide +kernel)]; exact ⟨rfl, rfl⟩))
    (fun os started H enc _ => lifted os started H enc)
end DiskAtOnceProof
--END
end Go.Proofs.Ytkmobhbbodajcaa
