/-
  DiskSure: what was synced and made sure stays, behind a crash. No condition.
-/
import Derived.Test.YtheealfappjabaaDiskSure3
import Derived.Test.YtheealfappjabaaRegion
import Derived.Handy
namespace Go.Proofs.Ytheealfappjabaa
open Go.RowKit Go.Maps
attribute [local go_sem] eq_file ne_file ne_disk ne_map
theorem eq_disk2 (q : Option Addr) (w : World) : (binOp .eql 26 (.pointer q) (.pointer none)).run Try.prog w = .ok (.bool q.isNone) w := run_eql_pointer_nil _ _ _ (by kernel_rfl)
attribute [local go_sem] eq_disk2
theorem sure_extract (s : ByteArray) (k : Nat) (l : List UInt8) (h : l = s.data.toList.take k) : s.extract 0 k = ⟨l.toArray⟩ := by
  apply ByteArray.ext; apply Array.toList_inj.1
  rw [ByteArray.data_extract, Array.toList_extract, List.extract_eq_take_drop, h]; simp
theorem OpsAt.keep {b o : Nat} {l : List OpV} {w w' : World} (h : OpsAt b o l w) (hk : w'.heap[b]? = w.heap[b]?) : OpsAt b o l w' := fun j x hx => by
  have e : ∀ a, w'.cell? ⟨b, a, none⟩ = w.cell? ⟨b, a, none⟩ := fun a => World.cell?_of_block (a := ⟨b, a, none⟩) hk
  rw [e, e, e, e, e]; exact h j x hx
set_option maxRecDepth 100000 in
set_option maxHeartbeats 4000000 in
theorem sure_main {a0 : Option Addr} {n0 c0 b0 o0 : Nat} {l0 : List OpV} {a1 : Option Addr} {n1 c1 b1 o1 : Nat} {l1 : List OpV} {w : World} (h0 : OpsArg a0 n0 c0 b0 o0 l0 w) (h1 : OpsArg a1 n1 c1 b1 o1 l1 w) (q0 : longB l0 = false) (q1 : longB l1 = false) (x : ByteArray) (hx : x.size ≤ 2000) (y : ByteArray) (hy : y.size ≤ 2000) (ca : Option Addr) (cn cc cb : Nat) (hcn : cn ≤ 300) (cs : List Int) (hI : IntsAt cb (.slice ca cn cc) cs w) :
    Calls Try.prog 3 #[.slice a0 n0 c0, .slice a1 n1 c1, .string x, .string y, .slice ca cn cc] w fun e w' => e = .returned (.bool true) ∧ Below w.heap.size w w' := by
  have AW := fun u => Lib.hid (awake_any u)
  have L0 := long_any h0
  have L1 := long_any h1
  rw [q0] at L0
  rw [q1] at L1
  have L0 := Lib.hid L0
  have L1 := Lib.hid L1
  have hxd : decide ((2000 : Int) < (x.size : Int)) = false := by rw [decide_eq_false_iff_not]; omega
  have hyd : decide ((2000 : Int) < (y.size : Int)) = false := by rw [decide_eq_false_iff_not]; omega
  have hcd : decide ((300 : Int) < (cn : Int)) = false := by rw [decide_eq_false_iff_not]; omega
  have N := Lib.hid (live_new 268435456 (by decide) (by decide) w (Nat.le_refl _))
  have hcl := Lib.hid (fun hne => hI.lt hne)
  have hI := Lib.hid hI
  have F0 := Lib.hid (long_false q0)
  have F1 := Lib.hid (long_false q1)
  clear q0 q1
  have H0 := Lib.hid h0
  have H1 := Lib.hid h1
  clear h0 h1
  go_enter Try.func3, Try.ntmps3
  go_wp2_with fail
  refine L0.out.mono ?_
  rintro e w' ⟨rfl, rfl⟩
  go_wp2_with fail
  refine L1.out.mono ?_
  rintro e w' ⟨rfl, rfl⟩
  go_wp2_with fail
  refine N.out.mono ?_
  rintro e v0 ⟨own0, p, rfl, lv, bb, f0⟩
  have lv0 := Lib.hid lv
  have B0 := Lib.hid bb
  clear bb f0 lv N L0 L1 hcd hxd hyd
  go_wp2_with fail
  go_loopw [13] (fun i wr => ∃ (j : Nat) (own : Own) (st : St), j ≤ n0 ∧ i = .int .i64 (j : Int) ∧ Live w.heap.size own p (j : Int) st wr ∧ Below w.heap.size w wr ∧ AheadR j st) (fun i _ => n0 - (intOf i).toNat)
  case atStart => exact ⟨0, own0, _, Nat.zero_le _, rfl, lv0.out, B0.out, ahead_new⟩
  case round =>
    clear lv0 B0
    obtain ⟨j, own, st, hj, rfl, lv, hb, hA⟩ := hrel
    have lv := Lib.hid lv
    have hb := Lib.hid hb
    have hA := Lib.hid hA
    have hj120 : j ≤ 120 := by have := F0.out.1; have := H0.out.1; omega
    by_cases hlt : j < n0
    · obtain ⟨hlen, _, _, hadr, hat, hsz⟩ := H0.out
      obtain ⟨⟨xd, xnm, xdt, xn, xca, xcn, xcc⟩, hx⟩ : ∃ x, l0[j]? = some x := ⟨_, List.getElem?_eq_getElem (by rw [hlen]; exact hlt)⟩
      have hmem := List.mem_of_getElem? hx
      obtain ⟨z1, z2, z3⟩ := hsz _ hmem
      have z2 := (F0.out.2 _ hmem).1
      obtain ⟨ha, hbl⟩ := hadr (by omega)
      obtain ⟨e0, e1, e2, e3, e4⟩ := (hat.keep (hb.out.block b0 hbl)) j _ hx
      subst ha
      simp only at e0 e1 e2 e3 e4 z1 z2 z3
      clear hat hsz hadr hlen hbl hx hmem
      by_cases h7 : xd = 7
      · subst h7
        clear z1 z2 z3 e1 e2 e3 e4
        go_wp2_with fail
        go_roundw
        case rel => exact ⟨j + 1, own, st, by omega, by go_num, (by have := lv.out.more (k' := ((j + 1 : Nat) : Int)) (by omega); exact this), hb.out, hA.out.more⟩
        case measure => simp [intOf]; omega
      · have C : Hid (Calls Try.prog 11 #[at0 p, .agg #[.int .i64 xd, .string xnm, .string xdt, .int .i64 xn, .slice xca xcn xcc], .string ⟨#[107, 101, 112, 116]⟩] wr (LEx w.heap.size p ((j : Int) + 1) wr (.tuple #[]) (AheadR (j + 1)))) := Lib.hid (sure_ahead lv.out (by omega) hb.out.size hA.out ⟨xd, xnm, xdt, xn, xca, xcn, xcc⟩ h7 z1 z2 z3)
        have n7 : (xd != 7) = true := by simpa using h7
        clear z1 z2 z3
        go_wp2_with fail
        refine C.out.mono ?_
        rintro e w' ⟨own', st', rfl, l', b', hA'⟩
        go_wp2_with fail
        go_roundw
        case rel => exact ⟨j + 1, own', st', by omega, by go_num, (by have := l'.more (k' := ((j + 1 : Nat) : Int)) (by omega); exact this), hb.out.trans b', hA'⟩
        case measure => simp [intOf]; omega
    · have C1 := Lib.hid (sure_create lv.out (by omega) hb.out.size hA.out hj120)
      clear hA
      go_wp2_with fail
      refine C1.out.mono ?_
      rintro e w1 ⟨own1, st1, rfl, l1', b1', i, m1⟩
      have b1' := Lib.hid (hb.out.trans b1')
      have C2 := Lib.hid (sure_append l1' (by omega) b1'.out.size m1 x hx)
      clear hb lv m1 C1 l1'
      go_wp2_with fail
      refine C2.out.mono ?_
      rintro e w2 ⟨own2, st2, rfl, l2', b2', m2⟩
      have b2' := Lib.hid (b1'.out.trans b2')
      have C3 := Lib.hid (sure_sync l2' (by omega) b2'.out.size m2)
      clear b1' m2 C2 l2'
      go_wp2_with fail
      refine C3.out.mono ?_
      rintro e w3 ⟨own3, st3, rfl, l3', b3', m3⟩
      have b3' := Lib.hid (b2'.out.trans b3')
      have C4 := Lib.hid (sure_dir l3' (by omega) b3'.out.size m3)
      clear b2' m3 C3 l3'
      go_wp2_with fail
      refine C4.out.mono ?_
      rintro e w4 ⟨own4, st4, rfl, l4', b4', m4⟩
      have b4' := Lib.hid (b3'.out.trans b4')
      have C5 := Lib.hid (sure_more l4' (by omega) b4'.out.size m4 y hy (by decide))
      clear b3' m4 C4 l4'
      go_wp2_with fail
      refine C5.out.mono ?_
      rintro e w5 ⟨own5, st5, rfl, l5', b5', m5⟩
      have b5' := Lib.hid (b4'.out.trans b5')
      have l5' := Lib.hid (l5'.more (k' := 126) (by omega))
      have m5 := Lib.hid m5
      clear b4' C5
      go_wp2_with fail
      go_loopw [14] (fun i' wq => ∃ (j' : Nat) (own : Own) (st : St), j' ≤ n1 ∧ i' = .int .i64 (j' : Int) ∧ Live w.heap.size own p (126 + (j' : Int)) st wq ∧ Below w.heap.size w wq ∧ Sure nKept i x.data.toList.length (x.data.toList ++ y.data.toList) st) (fun i' _ => n1 - (intOf i').toNat)
      case atStart => exact ⟨0, own5, _, Nat.zero_le _, rfl, l5'.out.more (by omega), b5'.out, m5.out⟩
      case round =>
        clear l5' b5' m5 hj hlt hj120 F0 H0
        obtain ⟨j', own', st', hj, rfl, lv, hb, hA⟩ := hrel
        have lv := Lib.hid lv
        have hb := Lib.hid hb
        have hA := Lib.hid hA
        have hj120 : j' ≤ 120 := by have := F1.out.1; have := H1.out.1; omega
        by_cases hlt : j' < n1
        · obtain ⟨hlen, _, _, hadr, hat, hsz⟩ := H1.out
          obtain ⟨⟨xd, xnm, xdt, xn, xca, xcn, xcc⟩, hx'⟩ : ∃ x, l1[j']? = some x := ⟨_, List.getElem?_eq_getElem (by rw [hlen]; exact hlt)⟩
          have hmem := List.mem_of_getElem? hx'
          obtain ⟨z1, z2, z3⟩ := hsz _ hmem
          have z2 := (F1.out.2 _ hmem).1
          obtain ⟨ha, hbl⟩ := hadr (by omega)
          obtain ⟨e0, e1, e2, e3, e4⟩ := (hat.keep (hb.out.block b1 hbl)) j' _ hx'
          subst ha
          simp only at e0 e1 e2 e3 e4 z1 z2 z3
          clear hat hsz hadr hlen hbl hx' hmem
          have C : Hid (Calls Try.prog 11 #[at0 p, .agg #[.int .i64 xd, .string xnm, .string xdt, .int .i64 xn, .slice xca xcn xcc], .string ⟨#[107, 101, 112, 116]⟩] wr (LEx w.heap.size p (126 + (j' : Int) + 1) wr (.tuple #[]) (Sure nKept i x.data.toList.length (x.data.toList ++ y.data.toList)))) := Lib.hid (sure_behind lv.out (by omega) hb.out.size hA.out ⟨xd, xnm, xdt, xn, xca, xcn, xcc⟩ z1 z2 z3)
          clear z1 z2 z3
          go_wp2_with fail
          refine C.out.mono ?_
          rintro e w' ⟨own', st', rfl, l', b', hA'⟩
          go_wp2_with fail
          go_roundw
          case rel => exact ⟨j' + 1, own', st', by omega, by go_num, l'.more (by omega), hb.out.trans b', hA'⟩
          case measure => simp [intOf]; omega
        · have C1 := Lib.hid (sure_crash lv.out (by omega) hb.out.size hA.out (hI.out.keep fun hne => hb.out.block cb (hcl.out hne)) hcl.out)
          clear hA
          go_wp2_with fail
          refine C1.out.mono ?_
          rintro e w1 ⟨own1, st1, rfl, l1', b1', m1⟩
          have b1' := Lib.hid (hb.out.trans b1')
          obtain ⟨r1, ⟨L, r2, r3, r4⟩, r5⟩ := m1
          have C2 := read_any l1'.at' ⟨#[107, 101, 112, 116]⟩ (by decide)
          have C3 := down_any l1'.at'
          obtain ⟨S, hS⟩ := named (⟨(st1.readS nKept).toArray⟩ : ByteArray)
          have C2 : Hid (Calls Try.prog 17 #[at0 p, .string ⟨#[107, 101, 112, 116]⟩] w1 fun e w' => e = .returned (.tuple #[.string S, .int .i64 0]) ∧ w1 = w') := Lib.hid (C2.mono fun _ _ h => by rw [hS.out]; exact ⟨h.1.trans (congrArg (fun z : Int => Ending.returned (.tuple #[.string ⟨(st1.readS nKept).toArray⟩, .int .i64 z])) r1), h.2⟩)
          rw [r5] at C3
          have C3 := Lib.hid C3
          have hWl : (x.data.toList ++ y.data.toList).length = x.size + y.size := by rw [List.length_append, Array.length_toList, Array.length_toList]; rfl
          have hxl : x.data.toList.length = x.size := by rw [Array.length_toList]; rfl
          have hSl : S.size = L := by
            have : S.size = ((x.data.toList ++ y.data.toList).take L).length := by rw [hS.out, r4]; rfl
            rw [this, List.length_take]; omega
          have g1 : x.size ≤ S.size := by omega
          have g2 : (S.size : Int) ≤ (x.size : Int) + (y.size : Int) := by omega
          have g3 : S.toList = ((x ++ y).extract 0 S.size).toList := congrArg ByteArray.toList (by
            rw [hSl, sure_extract (x ++ y) L ((x.data.toList ++ y.data.toList).take L) (by rw [ByteArray.data_append, Array.toList_append]), hS.out, r4])
          have g1' := Lib.hid g1
          have g2' := Lib.hid g2
          have g3' := Lib.hid g3
          clear hb lv C1 l1' r1 r5 r2 r3 r4 hS hSl hWl hxl g1 g2 g3
          go_wp2_with fail
          refine C2.out.mono ?_
          rintro e w2 ⟨rfl, rfl⟩
          clear C2
          go_wp2_with (first
            | (go_at_call 18; refine C3.out.mono ?_; rintro e w' ⟨rfl, rfl⟩)
            | (go_at_call 9; refine (AW _).out.mono ?_; rintro e w' ⟨rfl, hb⟩))
          all_goals first
            | (go_returns; exact ⟨rfl, b1'.out.trans (hb.mono b1'.out.size)⟩)
            | (exfalso; exact absurd g3'.out ‹¬ S.toList = _›)
            | (exfalso; have := g1'.out; have := g2'.out; omega)
set_option maxRecDepth 100000 in
set_option maxHeartbeats 1000000 in
theorem sure_long1 {a0 : Option Addr} {n0 c0 b0 o0 : Nat} {l0 : List OpV} {a1 : Option Addr} {n1 c1 b1 o1 : Nat} {l1 : List OpV} {w : World} (h0 : OpsArg a0 n0 c0 b0 o0 l0 w) (_h1 : OpsArg a1 n1 c1 b1 o1 l1 w) (q0 : longB l0 = true) (x y : ByteArray) (ca : Option Addr) (cn cc : Nat) :
    Calls Try.prog 3 #[.slice a0 n0 c0, .slice a1 n1 c1, .string x, .string y, .slice ca cn cc] w fun e w' => e = .returned (.bool true) ∧ Below w.heap.size w w' := by
  have AW := fun u => Lib.hid (awake_any u)
  have L0 := long_any h0
  rw [q0] at L0
  have L0 := Lib.hid L0
  clear h0 q0
  go_enter Try.func3, Try.ntmps3
  go_wp2_with (first
    | (go_at_call 8; refine L0.out.mono ?_; rintro e w' ⟨rfl, rfl⟩)
    | (go_at_call 9; refine (AW _).out.mono ?_; rintro e w' ⟨rfl, hb⟩))
  go_returns
  exact ⟨rfl, hb⟩
set_option maxRecDepth 100000 in
set_option maxHeartbeats 1000000 in
theorem sure_long2 {a0 : Option Addr} {n0 c0 b0 o0 : Nat} {l0 : List OpV} {a1 : Option Addr} {n1 c1 b1 o1 : Nat} {l1 : List OpV} {w : World} (h0 : OpsArg a0 n0 c0 b0 o0 l0 w) (h1 : OpsArg a1 n1 c1 b1 o1 l1 w) (q0 : longB l0 = false) (q1 : longB l1 = true) (x y : ByteArray) (ca : Option Addr) (cn cc : Nat) :
    Calls Try.prog 3 #[.slice a0 n0 c0, .slice a1 n1 c1, .string x, .string y, .slice ca cn cc] w fun e w' => e = .returned (.bool true) ∧ Below w.heap.size w w' := by
  have AW := fun u => Lib.hid (awake_any u)
  have L0 := long_any h0
  have L1 := long_any h1
  rw [q0] at L0
  rw [q1] at L1
  have L0 := Lib.hid L0
  have L1 := Lib.hid L1
  clear h0 h1 q0 q1
  go_enter Try.func3, Try.ntmps3
  go_wp2_with fail
  refine L0.out.mono ?_
  rintro e w' ⟨rfl, rfl⟩
  go_wp2_with fail
  refine L1.out.mono ?_
  rintro e w' ⟨rfl, rfl⟩
  go_wp2_with (go_at_call 9; refine (AW _).out.mono ?_; rintro e w' ⟨rfl, hb⟩)
  go_returns
  exact ⟨rfl, hb⟩
set_option maxRecDepth 100000 in
set_option maxHeartbeats 1000000 in
theorem sure_big {a0 : Option Addr} {n0 c0 b0 o0 : Nat} {l0 : List OpV} {a1 : Option Addr} {n1 c1 b1 o1 : Nat} {l1 : List OpV} {w : World} (h0 : OpsArg a0 n0 c0 b0 o0 l0 w) (h1 : OpsArg a1 n1 c1 b1 o1 l1 w) (q0 : longB l0 = false) (q1 : longB l1 = false) (x y : ByteArray) (ca : Option Addr) (cn cc : Nat) (hb : ¬ (x.size ≤ 2000 ∧ y.size ≤ 2000 ∧ cn ≤ 300)) :
    Calls Try.prog 3 #[.slice a0 n0 c0, .slice a1 n1 c1, .string x, .string y, .slice ca cn cc] w fun e w' => e = .returned (.bool true) ∧ Below w.heap.size w w' := by
  have AW := fun u => Lib.hid (awake_any u)
  have L0 := long_any h0
  have L1 := long_any h1
  rw [q0] at L0
  rw [q1] at L1
  have L0 := Lib.hid L0
  have L1 := Lib.hid L1
  clear h0 h1 q0 q1
  obtain ⟨bx, hbx⟩ := named (decide ((2000 : Int) < (x.size : Int)))
  obtain ⟨b_y, hby⟩ := named (decide ((2000 : Int) < (y.size : Int)))
  obtain ⟨bc, hbc⟩ := named (decide ((300 : Int) < (cn : Int)))
  have hall : bx = true ∨ (bx = false ∧ (b_y = true ∨ (b_y = false ∧ bc = true))) := by
    rw [hbx.out, hby.out, hbc.out]
    simp only [decide_eq_true_eq, decide_eq_false_iff_not]
    omega
  have ex := hbx.out.symm
  have ey := hby.out.symm
  have ec := hbc.out.symm
  rcases hall with rfl | ⟨rfl, rfl | ⟨rfl, rfl⟩⟩
  all_goals
    go_enter Try.func3, Try.ntmps3
    go_wp2_with fail
    refine L0.out.mono ?_
    rintro e w' ⟨rfl, rfl⟩
    go_wp2_with fail
    refine L1.out.mono ?_
    rintro e w' ⟨rfl, rfl⟩
    go_wp2_with (go_at_call 9; refine (AW _).out.mono ?_; rintro e w' ⟨rfl, hb⟩)
    go_returns
    exact ⟨rfl, hb⟩
theorem sure_walk (a0 : Option Addr) (n0 c0 b0 o0 : Nat) (l0 : List OpV) (a1 : Option Addr) (n1 c1 b1 o1 : Nat) (l1 : List OpV) (x : ByteArray) (_hx : x.size ≤ reachBytes) (y : ByteArray) (_hy : y.size ≤ reachBytes) (ca : Option Addr) (cn cc cb : Nat) (cs : List Int) (w : World) (h0 : OpsArg a0 n0 c0 b0 o0 l0 w) (h1 : OpsArg a1 n1 c1 b1 o1 l1 w) (hI : IntsAt cb (.slice ca cn cc) cs w) :
    Calls Try.prog 3 #[.slice a0 n0 c0, .slice a1 n1 c1, .string x, .string y, .slice ca cn cc] w fun e w' => e = .returned (.bool true) ∧ Below w.heap.size w w' := by
  cases q0 : longB l0 with
  | true => exact sure_long1 h0 h1 q0 x y ca cn cc
  | false =>
    cases q1 : longB l1 with
    | true => exact sure_long2 h0 h1 q0 q1 x y ca cn cc
    | false =>
      by_cases hb : x.size ≤ 2000 ∧ y.size ≤ 2000 ∧ cn ≤ 300
      · exact sure_main h0 h1 q0 q1 x hb.1 y hb.2.1 ca cn cc cb hb.2.2 cs hI
      · exact sure_big h0 h1 q0 q1 x y ca cn cc hb
--LAW freshetlaw05.DiskSure sure_walk ops:l0 ops:l1 string:x string:y ints:cs
--BEGIN
namespace DiskSureProof
open Go.ChangeShapes Go.WideShapes Go.ChangeAt Go.RowKit
open Go.ChangeMaps (open_string shut_string)
theorem own : ownKnob Try.prog.godebug = none := by kernel_rfl
set_option maxRecDepth 100000 in
theorem lifted (os : Os) (started : os.Started) (H : Type) (enc : TypeId × Value → H) :
    ReturnsInHanded {} Try.checked os 3 .any (Rows.diskSureSpec.pre6 enc Try.prog Try.f3 Rows.diskSureRow.domain false) (Rows.diskSureSpec.post enc Try.prog Try.f3 false true false false) := by
  refine returnsInHanded_of_change_sized (C := Try.checked) own started (by kernel_rfl) Try.func3
    (ChangeSpec.witness6 (enc := enc) (C := Try.checked) false ⟨#[], #[.slice none 0 0, .slice none 0 0, .string .empty, .string .empty, .slice none 0 0], []⟩ 8 (by kernel_rfl) (by kernel_rfl) (by kernel_rfl) (by kernel_rfl)) ?_
  intro W base args ds gs before hval0 hW _ hsz _
  have hval : ∀ (j : Nat) t v, Try.f3.params[j]? = some t → args[j]? = some v → Value.okWide Try.prog W .any base t v := hval0
  have hW' := hW
  obtain ⟨p, q, hA0, hV, rfl, hfz, hnd⟩ := hW
  have hA : DataW.TrodAll enc Try.prog W 0 (fun _ => true) true Try.f3.params.toList args.toList ds p := hA0
  rw [Try.params3] at hA hval hsz
  obtain ⟨v0, vs0, d0, ds0, p0, q0, hargs, rfl, rfl, h0, r0⟩ := trodAll_cons hA
  obtain ⟨v1, vs1, d1, ds1, p1, q1, rfl, rfl, rfl, h1, r1⟩ := trodAll_cons r0
  obtain ⟨v2, vs2, d2, ds2, p2, q2, rfl, rfl, rfl, h2, r2⟩ := trodAll_cons r1
  obtain ⟨v3, vs3, d3, ds3, p3, q3, rfl, rfl, rfl, h3, r3⟩ := trodAll_cons r2
  obtain ⟨v4, vs4, d4, ds4, p4, q4, rfl, rfl, rfl, h4, r4⟩ := trodAll_cons r3
  obtain ⟨rfl, rfl, rfl⟩ := trodAll_nil r4
  obtain rfl : args = #[v0, v1, v2, v3, v4] := by cases args; simp_all
  obtain ⟨rfl, rfl⟩ := trodVars_none hV
  obtain ⟨a0, n0, c0, rfl⟩ := okWide_slice Try.underlying22 (hval 0 22 v0 rfl rfl)
  have k0 := h0
  obtain ⟨fu0, hf0⟩ := h0
  obtain ⟨b0, o0, l0, ia0⟩ := open_ops_arg hf0 hsz (j := 0) rfl rfl
  have lt0 : ∀ x ∈ p0, x.block < W.heap.size := fun x hx => hW'.lt x (by simp only [List.mem_append]; simp [hx])
  obtain ⟨a1, n1, c1, rfl⟩ := okWide_slice Try.underlying22 (hval 1 22 v1 rfl rfl)
  have k1 := h1
  obtain ⟨fu1, hf1⟩ := h1
  obtain ⟨b1, o1, l1, ia1⟩ := open_ops_arg hf1 hsz (j := 1) rfl rfl
  have lt1 : ∀ x ∈ p1, x.block < W.heap.size := fun x hx => hW'.lt x (by simp only [List.mem_append]; simp [hx])
  obtain ⟨x, rfl, rfl, rfl, m2⟩ := open_string Try.underlying9 (hval 2 9 v2 rfl rfl) h2
  obtain ⟨y, rfl, rfl, rfl, m3⟩ := open_string Try.underlying9 (hval 3 9 v3 rfl rfl) h3
  obtain ⟨a4, n4, c4, rfl⟩ := okWide_slice Try.underlying23 (hval 4 23 v4 rfl rfl)
  have k4 := h4
  obtain ⟨fu4, hf4⟩ := h4
  obtain ⟨b4, cs, ia4⟩ := open_ints_arg hf4
  have lt4 : ∀ x ∈ p4, x.block < W.heap.size := fun x hx => hW'.lt x (by simp only [List.mem_append]; simp [hx])
  have z2 : x.size ≤ reachBytes := by have := sized_string hsz (j := 2) (t := 9) (bytes := x.data.toList) rfl rfl; simpa using this
  have z3 : y.size ≤ reachBytes := by have := sized_string hsz (j := 3) (t := 9) (bytes := y.data.toList) rfl rfl; simpa using this
  clear hA0 hval0
  simp only [List.append_nil] at hW'
  refine (sure_walk a0 n0 c0 b0 o0 l0 a1 n1 c1 b1 o1 l1 x z2 y z3 a4 n4 c4 b4 cs W ia0 ia1 ia4).mono fun e W' ⟨he, hg⟩ => ?_
  subst he
  exact ⟨_, rfl, _, _, _, [], _, [], hW', (trodAll_cons_mk (shut_bool Try.underlying4 _) trodAll_mk0), (trodAll_cons_mk (Below.trod laid_out (by kernel_rfl) (of_decide_eq_true (by kernel_rfl)) k0 hg lt0) (trodAll_cons_mk (Below.trod laid_out (by kernel_rfl) (of_decide_eq_true (by kernel_rfl)) k1 hg lt1) (trodAll_cons_mk (shut_string Try.underlying9 m2) (trodAll_cons_mk (shut_string Try.underlying9 m3) (trodAll_cons_mk (Below.trod laid_out (by kernel_rfl) (of_decide_eq_true (by kernel_rfl)) k4 hg lt4) trodAll_mk0))))), rfl, hg.frame _, fun h => by cases h⟩
theorem holds : Rows.DiskSureSaid :=
  OpenClaim.holds_of_wide 3 Try.f3 rfl rfl rfl rfl rfl rfl rfl ⟨rfl, rfl, rfl, rfl, rfl⟩ rfl rfl rfl rfl rfl (by kernel_rfl) Try.func3 (by kernel_rfl)
    (of_decide_eq_true (by kernel_rfl)) (by unfold Func.isWrapper; first | (rw [if_pos (by decide +kernel)]; kernel_rfl) | (rw [if_neg (by decide +kernel)]; exact ⟨rfl, rfl⟩))
    (fun os started H enc _ => lifted os started H enc)
end DiskSureProof
--END
end Go.Proofs.Ytheealfappjabaa
