/-
  MemNone: a table that is not there, or that nobody made, answers ErrNil, and tells nothing. No condition.
-/
import Derived.Test.YtdgbafpnfkedeaaPack4
namespace Go.Proofs.Ytdgbafpnfkedeaa
set_option maxRecDepth 100000
open Go.RowKit
attribute [local go_sem] eq_node ne_node eq_list eq_table
theorem reach_small0 {s : ByteArray} (h : s.size ≤ reachBytes) : s.size ≤ 281474976710656 := by unfold reachBytes at h; omega
theorem range_tab {q : Option Addr} {R : List Rw} {w : World} (h : TabQ q R w) (fr to' : ByteArray) (hk : fr.size ≤ 281474976710656) : Calls Try.prog 16 #[.pointer q, .string fr, .string to'] w (GaveR (rngR R fr to') w) := by
  rcases h with ⟨rfl, rfl⟩ | ⟨p, L, l, rfl, h, hL, hR, hn⟩
  · have E := Lib.hid (below_alloc w (.cells #[.string to'] 9))
    clear hk
    go_enter Try.func16, Try.ntmps16
    go_wp2_with fail
    go_returns
    exact ⟨_, rfl, World.ownsRow_nil _ _ _ _, E.out⟩
  · exact range_some h hL hR hn fr to' hk
set_option maxHeartbeats 4000000 in
theorem add_none {q : Option Addr} {w : World} (hq : q = none ∨ ∃ p, q = some ⟨p, 0, none⟩ ∧ TabAt p none [] w) {seq : Nat} {a : Option Addr} {n c : Nat} (v : Value) :
    Calls Try.prog 12 #[.pointer q, batchV seq a n c, v] w fun e w' => e = .returned (.int .i64 1) ∧ Below w.heap.size w w' := by
  have W0 := Lib.hid (below_alloc w (.cells #[.int .u64 (seq : Int), .slice a n c] 31))
  rcases hq with rfl | ⟨p, rfl, hT⟩
  · go_enter Try.func12, Try.ntmps12
    go_wp2_with fail
    go_returns
    exact ⟨rfl, W0.out⟩
  · obtain ⟨c0, _, _, _⟩ := (hT.grow W0.out).cells
    clear hT
    go_enter Try.func12, Try.ntmps12
    go_wp2_with fail
    go_returns
    exact ⟨rfl, W0.out⟩
set_option maxRecDepth 100000 in
set_option maxHeartbeats 8000000 in
theorem none_walk (sq : Nat) (a0 : Option Addr) (n0 c0 b0 o0 : Nat) (ws : List Wr) (_ : sq < 2 ^ 64) (k : ByteArray) (hk : k.size ≤ reachBytes) (q : Int) (hq : (Lit.int .u64 q).wf = true) (w : World) (_ : Ws a0 n0 c0 b0 o0 ws w) :
    Calls Try.prog 4 #[batchV sq a0 n0 c0, .string k, .int .u64 q] w fun e w' => e = .returned (.bool true) ∧ Below w.heap.size w w' := by
  obtain ⟨Q, rfl⟩ : ∃ Q : Nat, q = (Q : Int) := ⟨q.toNat, by
    have : 0 ≤ q := by have := hq; simp [Lit.wf, IntKind.min, IntKind.max, IntKind.signed, IntKind.bits] at this; omega
    omega⟩
  replace hk := Lib.hid (reach_small0 hk)
  clear hq
  have AW := fun u => Lib.hid (awake_mem u)
  have NEQ : ∀ u : World, (binOp .neq 43 (.agg #[.string ⟨#[]⟩, .int .u64 0, .int .i64 0, .string ⟨#[]⟩]) (.agg #[.string ⟨#[]⟩, .int .u64 0, .int .i64 0, .string ⟨#[]⟩])).run Try.prog u = .ok (.bool false) u := fun u => neq_rw ⟨#[]⟩ ⟨#[]⟩ 0 0 0 0 ⟨#[]⟩ ⟨#[]⟩ false (by simp) u
  have F0 : Hid (Below w.heap.size w ((w.alloc (.cells #[.int .u64 (sq : Int), .slice a0 n0 c0] 31)).alloc (.cells #[.pointer none, .int .i64 0, .int .u64 0, .int .u64 0] 54)) ∧ TabAt (w.heap.size + 1) none [] ((w.alloc (.cells #[.int .u64 (sq : Int), .slice a0 n0 c0] 31)).alloc (.cells #[.pointer none, .int .i64 0, .int .u64 0, .int .u64 0] 54)) ∧ ((w.alloc (.cells #[.int .u64 (sq : Int), .slice a0 n0 c0] 31)).alloc (.cells #[.pointer none, .int .i64 0, .int .u64 0, .int .u64 0] 54)).heap[w.heap.size]? = some (.cells #[.int .u64 (sq : Int), .slice a0 n0 c0] 31 (0, 0))) := Lib.hid (by
    have b1 := below_alloc w (.cells #[.int .u64 (sq : Int), .slice a0 n0 c0] 31)
    have h1 := heap_alloc_new w (.cells #[.int .u64 (sq : Int), .slice a0 n0 c0] 31)
    have s1 := World.size_alloc w (.cells #[.int .u64 (sq : Int), .slice a0 n0 c0] 31)
    generalize w.alloc (.cells #[.int .u64 (sq : Int), .slice a0 n0 c0] 31) = W at b1 h1 s1 ⊢
    have b2 := below_alloc W (.cells #[.pointer none, .int .i64 0, .int .u64 0, .int .u64 0] 54)
    have h2 := heap_alloc_new W (.cells #[.pointer none, .int .i64 0, .int .u64 0, .int .u64 0] 54)
    rw [s1] at h2
    exact ⟨below_of b1 b2, h2, (b2.block _ (by omega)).trans h1⟩)
  go_enter Try.func4, Try.ntmps4
  go_wp2_with fail
  generalize (w.alloc (.cells #[.int .u64 (sq : Int), .slice a0 n0 c0] 31)).alloc (.cells #[.pointer none, .int .i64 0, .int .u64 0, .int .u64 0] 54) = V at F0 ⊢
  have KB : Hid (∀ u, Below V.heap.size V u → u.cell? ⟨w.heap.size, 0, none⟩ = some (.int .u64 (sq : Int)) ∧ u.cell? ⟨w.heap.size, 1, none⟩ = some (.slice a0 n0 c0)) := Lib.hid fun u hu => by
    have := (hu.block w.heap.size (Array.getElem?_eq_some_iff.1 F0.out.2.2).1).trans F0.out.2.2
    constructor <;> (unfold World.cell?; rw [this]; rfl)
  have TV := Lib.hid F0.out.2.1
  have B0 := Lib.hid F0.out.1
  have Z0 := Lib.hid (Below.refl V.heap.size V)
  clear F0
  go_loopw [7, 9] (fun t v wr => ∃ j : Nat, j ≤ 2 ∧ t = .pointer (if j ≤ 1 then none else some ⟨w.heap.size + 1, 0, none⟩) ∧ v = .int .i64 (j : Int) ∧ Below V.heap.size V wr) (fun _ v _ => 2 - (intOf v).toNat)
  case atStart => exact ⟨0, by omega, rfl, rfl, Z0.out⟩
  case round =>
    obtain ⟨j, hj, rfl, rfl, hB⟩ := hrel
    obtain rfl | rfl | rfl : j = 0 ∨ j = 1 ∨ j = 2 := by omega
    · rw [if_pos (by omega)]
      have QT : Hid (∀ u, Below V.heap.size V u → TabQ none [] u) := Lib.hid fun u hu => .inl ⟨rfl, rfl⟩
      have GE : Hid (Calls Try.prog 14 #[.pointer none, .string k, .int .u64 (Q : Int)] wr fun e w' => e = .returned (.tuple #[.agg #[.string ⟨#[]⟩, .int .u64 0, .int .i64 0, .string ⟨#[]⟩], .bool false]) ∧ Below wr.heap.size wr w') := Lib.hid (get_any (QT.out wr hB) k Q)
      have bs2 : Hid (∀ u v : World, Below V.heap.size V u → Below u.heap.size u v → Below V.heap.size V v) := Lib.hid fun u v h1 h2 => h1.trans (h2.mono h1.size)
      have hB := Lib.hid hB
      go_upto_region 9 with (go_at_call 14; ((with_reducible refine GE.out.mono ?_); rintro e w3 ⟨rfl, B3⟩; have B3 := Lib.hid (bs2.out _ _ hB.out B3); clear GE))
      have Q3 := Lib.hid (bs2.out _ _ B3.out (below_alloc w3 (.cells #[.string ⟨#[]⟩, .int .u64 0, .int .i64 0, .string ⟨#[]⟩] 43)))
      have R3 := Lib.hid (show RowAt w3.heap.size zeroR (w3.alloc (.cells #[.string ⟨#[]⟩, .int .u64 0, .int .i64 0, .string ⟨#[]⟩] 43)) from RowAt.new zeroR w3)
      generalize w3.alloc (.cells #[.string ⟨#[]⟩, .int .u64 0, .int .i64 0, .string ⟨#[]⟩] 43) = V3 at Q3 R3 ⊢
      obtain ⟨k0, k1⟩ := KB.out V3 Q3.out
      have AD : Hid (Calls Try.prog 12 #[.pointer none, batchV sq a0 n0 c0, .slice none 0 0] V3 fun e w' => e = .returned (.int .i64 1) ∧ Below V3.heap.size V3 w') := Lib.hid (add_none (.inl rfl) _)
      have GR : Hid (∀ u, Below V.heap.size V u → Calls Try.prog 20 #[.pointer none] u fun e w' => ∃ x c, e = .returned (.slice x 0 c) ∧ Below u.heap.size u w') := Lib.hid fun u hu => (rows_tab (QT.out u hu)).mono fun e w' hd => by
        obtain ⟨x, c, _, he, _, hb⟩ := gave_rs hd
        exact ⟨x, c, he, hb⟩
      have RG : Hid (∀ u, Below V.heap.size V u → Calls Try.prog 16 #[.pointer none, .string k, .string ⟨#[]⟩] u fun e w' => ∃ x c, e = .returned (.slice x 0 c) ∧ Below u.heap.size u w') := Lib.hid fun u hu => (range_tab (QT.out u hu) k ⟨#[]⟩ hk.out).mono fun e w' hd => by
        have e0 : rngR [] k ⟨#[]⟩ = [] := rfl
        rw [e0] at hd
        obtain ⟨x, c, _, he, _, hb⟩ := gave_rs hd
        exact ⟨x, c, he, hb⟩
      have TL : Hid (∀ u, Below V.heap.size V u → Calls Try.prog 19 #[.pointer none, .slice none 0 0] u fun e w' => e = .returned (.bool true) ∧ Below u.heap.size u w') := Lib.hid fun u hu => tells_any (b := 0) (o := 0) (QT.out u hu) ⟨rfl, Nat.le_refl _, by omega, fun h => absurd h (by omega), RwsAt.nil _ _ _⟩ (by omega) (fun x hx => by cases hx)
      go_wp2_with (first
        | (go_at_call 12; ((with_reducible refine AD.out.mono ?_); rintro e w4 ⟨rfl, B4⟩; have Q4 := Lib.hid (bs2.out _ _ Q3.out B4); obtain ⟨y0, y1, y2, y3⟩ := (show w4.cell? ⟨w3.heap.size, 0, none⟩ = some (.string ⟨#[]⟩) ∧ w4.cell? ⟨w3.heap.size, 1, none⟩ = some (.int .u64 0) ∧ w4.cell? ⟨w3.heap.size, 2, none⟩ = some (.int .i64 0) ∧ w4.cell? ⟨w3.heap.size, 3, none⟩ = some (.string ⟨#[]⟩) from (R3.out.below B4).cells.1); clear B4 AD R3))
        | (go_at_call 20; ((with_reducible refine (GR.out _ Q4.out).mono ?_); rintro e w5 ⟨x5, c5, rfl, B5⟩; have Q5 := Lib.hid (bs2.out _ _ Q4.out B5); clear B5 GR))
        | (go_at_call 16; ((with_reducible refine (RG.out _ Q5.out).mono ?_); rintro e w6 ⟨x6, c6, rfl, B6⟩; have Q6 := Lib.hid (bs2.out _ _ Q5.out B6); clear B6 RG))
        | (go_at_call 19; ((with_reducible refine (TL.out _ Q6.out).mono ?_); rintro e w7 ⟨rfl, B7⟩; have Q7 := Lib.hid (bs2.out _ _ Q6.out B7); clear B7 TL))
        | fail "no arm")
      go_roundw
      case rel => exact ⟨0 + 1, by omega, rfl, rfl, Q7.out⟩
      case measure => simp [intOf]
    · rw [if_pos (by omega)]
      have QT : Hid (∀ u, Below V.heap.size V u → TabQ (some ⟨w.heap.size + 1, 0, none⟩) [] u) := Lib.hid fun u hu => .inr ⟨_, none, [], rfl, TV.out.grow hu, ls_none u, rfl, by simp⟩
      have GE : Hid (Calls Try.prog 14 #[.pointer (some ⟨w.heap.size + 1, 0, none⟩), .string k, .int .u64 (Q : Int)] wr fun e w' => e = .returned (.tuple #[.agg #[.string ⟨#[]⟩, .int .u64 0, .int .i64 0, .string ⟨#[]⟩], .bool false]) ∧ Below wr.heap.size wr w') := Lib.hid (get_any (QT.out wr hB) k Q)
      have bs2 : Hid (∀ u v : World, Below V.heap.size V u → Below u.heap.size u v → Below V.heap.size V v) := Lib.hid fun u v h1 h2 => h1.trans (h2.mono h1.size)
      have hB := Lib.hid hB
      go_upto_region 9 with (go_at_call 14; ((with_reducible refine GE.out.mono ?_); rintro e w3 ⟨rfl, B3⟩; have B3 := Lib.hid (bs2.out _ _ hB.out B3); clear GE))
      have Q3 := Lib.hid (bs2.out _ _ B3.out (below_alloc w3 (.cells #[.string ⟨#[]⟩, .int .u64 0, .int .i64 0, .string ⟨#[]⟩] 43)))
      have R3 := Lib.hid (show RowAt w3.heap.size zeroR (w3.alloc (.cells #[.string ⟨#[]⟩, .int .u64 0, .int .i64 0, .string ⟨#[]⟩] 43)) from RowAt.new zeroR w3)
      generalize w3.alloc (.cells #[.string ⟨#[]⟩, .int .u64 0, .int .i64 0, .string ⟨#[]⟩] 43) = V3 at Q3 R3 ⊢
      obtain ⟨k0, k1⟩ := KB.out V3 Q3.out
      have AD : Hid (Calls Try.prog 12 #[.pointer (some ⟨w.heap.size + 1, 0, none⟩), batchV sq a0 n0 c0, .slice none 0 0] V3 fun e w' => e = .returned (.int .i64 1) ∧ Below V3.heap.size V3 w') := Lib.hid (add_none (.inr ⟨_, rfl, TV.out.grow Q3.out⟩) _)
      have GR : Hid (∀ u, Below V.heap.size V u → Calls Try.prog 20 #[.pointer (some ⟨w.heap.size + 1, 0, none⟩)] u fun e w' => ∃ x c, e = .returned (.slice x 0 c) ∧ Below u.heap.size u w') := Lib.hid fun u hu => (rows_tab (QT.out u hu)).mono fun e w' hd => by
        obtain ⟨x, c, _, he, _, hb⟩ := gave_rs hd
        exact ⟨x, c, he, hb⟩
      have RG : Hid (∀ u, Below V.heap.size V u → Calls Try.prog 16 #[.pointer (some ⟨w.heap.size + 1, 0, none⟩), .string k, .string ⟨#[]⟩] u fun e w' => ∃ x c, e = .returned (.slice x 0 c) ∧ Below u.heap.size u w') := Lib.hid fun u hu => (range_tab (QT.out u hu) k ⟨#[]⟩ hk.out).mono fun e w' hd => by
        have e0 : rngR [] k ⟨#[]⟩ = [] := rfl
        rw [e0] at hd
        obtain ⟨x, c, _, he, _, hb⟩ := gave_rs hd
        exact ⟨x, c, he, hb⟩
      have TL : Hid (∀ u, Below V.heap.size V u → Calls Try.prog 19 #[.pointer (some ⟨w.heap.size + 1, 0, none⟩), .slice none 0 0] u fun e w' => e = .returned (.bool true) ∧ Below u.heap.size u w') := Lib.hid fun u hu => tells_any (b := 0) (o := 0) (QT.out u hu) ⟨rfl, Nat.le_refl _, by omega, fun h => absurd h (by omega), RwsAt.nil _ _ _⟩ (by omega) (fun x hx => by cases hx)
      go_wp2_with (first
        | (go_at_call 12; ((with_reducible refine AD.out.mono ?_); rintro e w4 ⟨rfl, B4⟩; have Q4 := Lib.hid (bs2.out _ _ Q3.out B4); obtain ⟨y0, y1, y2, y3⟩ := (show w4.cell? ⟨w3.heap.size, 0, none⟩ = some (.string ⟨#[]⟩) ∧ w4.cell? ⟨w3.heap.size, 1, none⟩ = some (.int .u64 0) ∧ w4.cell? ⟨w3.heap.size, 2, none⟩ = some (.int .i64 0) ∧ w4.cell? ⟨w3.heap.size, 3, none⟩ = some (.string ⟨#[]⟩) from (R3.out.below B4).cells.1); clear B4 AD R3))
        | (go_at_call 20; ((with_reducible refine (GR.out _ Q4.out).mono ?_); rintro e w5 ⟨x5, c5, rfl, B5⟩; have Q5 := Lib.hid (bs2.out _ _ Q4.out B5); clear B5 GR))
        | (go_at_call 16; ((with_reducible refine (RG.out _ Q5.out).mono ?_); rintro e w6 ⟨x6, c6, rfl, B6⟩; have Q6 := Lib.hid (bs2.out _ _ Q5.out B6); clear B6 RG))
        | (go_at_call 19; ((with_reducible refine (TL.out _ Q6.out).mono ?_); rintro e w7 ⟨rfl, B7⟩; have Q7 := Lib.hid (bs2.out _ _ Q6.out B7); clear B7 TL))
        | fail "no arm")
      go_roundw
      case rel => exact ⟨1 + 1, by omega, rfl, rfl, Q7.out⟩
      case measure => simp [intOf]
    · rw [if_neg (by omega)]
      have hB := Lib.hid (B0.out.trans (hB.mono B0.out.size))
      have hs := Lib.hid hB.out.size
      go_wp2_with (go_at_call 9; ((with_reducible refine (AW _).out.mono ?_); rintro e w9 ⟨rfl, B9⟩; have B9 := Lib.hid (hB.out.trans (B9.mono hs.out))))
      go_returns
      exact ⟨rfl, B9.out⟩
--LAW freshetlaw09.MemNone none_walk batch:b string:k uint64:q
--BEGIN
namespace MemNoneProof
open Go.ChangeShapes Go.WideShapes Go.ChangeAt Go.RowKit
open Go.ChangeMaps (open_string shut_string)
theorem own : ownKnob Try.prog.godebug = none := by kernel_rfl
set_option maxRecDepth 100000 in
theorem lifted (os : Os) (started : os.Started) (H : Type) (enc : TypeId × Value → H) :
    ReturnsInHanded {} Try.checked os 4 .any (Rows.memNoneSpec.pre6 enc Try.prog Try.f4 Rows.memNoneRow.domain false) (Rows.memNoneSpec.post enc Try.prog Try.f4 false true false false) := by
  refine returnsInHanded_of_change_sized (C := Try.checked) own started (by kernel_rfl) Try.func4
    (ChangeSpec.witness6 (enc := enc) (C := Try.checked) false ⟨#[], #[.agg #[.int .u64 0, .slice none 0 0], .string .empty, .int .u64 0], []⟩ 8 (by kernel_rfl) (by kernel_rfl) (by kernel_rfl) (by kernel_rfl)) ?_
  intro W base args ds gs before hval0 hW _ hsz _
  have hval : ∀ (j : Nat) t v, Try.f4.params[j]? = some t → args[j]? = some v → Value.okWide Try.prog W .any base t v := hval0
  have hW' := hW
  obtain ⟨p, q, hA0, hV, rfl, hfz, hnd⟩ := hW
  have hA : DataW.TrodAll enc Try.prog W 0 (fun _ => true) true Try.f4.params.toList args.toList ds p := hA0
  rw [Try.params4] at hA hval hsz
  obtain ⟨v0, vs0, d0, ds0, p0, q0, hargs, rfl, rfl, h0, r0⟩ := trodAll_cons hA
  obtain ⟨v1, vs1, d1, ds1, p1, q1, rfl, rfl, rfl, h1, r1⟩ := trodAll_cons r0
  obtain ⟨v2, vs2, d2, ds2, p2, q2, rfl, rfl, rfl, h2, r2⟩ := trodAll_cons r1
  obtain ⟨rfl, rfl, rfl⟩ := trodAll_nil r2
  obtain rfl : args = #[v0, v1, v2] := by cases args; simp_all
  obtain ⟨rfl, rfl⟩ := trodVars_none hV
  have k0 := h0
  obtain ⟨sq0, a0, n0, c0, b0, o0, b, rfl, m0, ia0⟩ := open_batch (hval 0 31 v0 rfl rfl) h0 hsz (j := 0) rfl rfl
  have lt0 : ∀ x ∈ p0, x.block < W.heap.size := fun x hx => hW'.lt x (by simp only [List.mem_append]; simp [hx])
  obtain ⟨k, rfl, rfl, rfl, m1⟩ := open_string Try.underlying9 (hval 1 9 v1 rfl rfl) h1
  obtain ⟨q, rfl, rfl, rfl, m2⟩ := open_int Try.underlying28 (hval 2 28 v2 rfl rfl) h2
  have z1 : k.size ≤ reachBytes := by have := sized_string hsz (j := 1) (t := 9) (bytes := k.data.toList) rfl rfl; simpa using this
  clear hA0 hval0
  simp only [List.append_nil] at hW'
  refine (none_walk sq0 a0 n0 c0 b0 o0 b m0 k z1 q m2 W ia0).mono fun e W' ⟨he, hg⟩ => ?_
  subst he
  exact ⟨_, rfl, _, _, _, [], _, [], hW', (trodAll_cons_mk (shut_bool Try.underlying4 _) trodAll_mk0), (trodAll_cons_mk (Below.trod laid_out (by kernel_rfl) (of_decide_eq_true (by kernel_rfl)) k0 hg lt0) (trodAll_cons_mk (shut_string Try.underlying9 m1) (trodAll_cons_mk (shut_int Try.underlying28 m2) trodAll_mk0))), rfl, hg.frame _, fun h => by cases h⟩
theorem holds : Rows.MemNoneSaid :=
  OpenClaim.holds_of_wide 4 Try.f4 rfl rfl rfl rfl rfl rfl rfl ⟨rfl, rfl, rfl, rfl, rfl⟩ rfl rfl rfl rfl rfl (by kernel_rfl) Try.func4 (by kernel_rfl)
    (of_decide_eq_true (by kernel_rfl)) (by unfold Func.isWrapper; first | (rw [if_pos (by decide +kernel)]; kernel_rfl) | (rw [if_neg (by decide +kernel)]; exact ⟨rfl, rfl⟩))
    (fun os started H enc _ => lifted os started H enc)
end MemNoneProof
--END
end Go.Proofs.Ytdgbafpnfkedeaa
