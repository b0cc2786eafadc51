/-
  The contract of Seek. Condition: at most 2^20 bytes.
-/
import Derived.Test.YtnmlifagchdphaaBlockSeekMath
import Derived.Test.YtnmlifagchdphaaBlockDecode
import Derived.Test.YtnmlifagchdphaaBlockSlices
import Derived.Maps.AppendAt
import Derived.Laws.EntriesVeiled
namespace Go.Proofs.Ytnmlifagchdphaa
set_option maxRecDepth 100000
open Go.RowKit
set_option maxRecDepth 100000 in
set_option maxHeartbeats 2000000 in
theorem ahead_clo (x : Rw) (k : ByteArray) (q b4 b5 : Nat) (w : World) (c4 : w.cell? ⟨b4, 0, none⟩ = some (.string k)) (c5 : w.cell? ⟨b5, 0, none⟩ = some (.int .u64 (q : Int))) :
    Calls Try.prog 17 #[.agg #[.string x.key, .int .u64 (x.seq : Int), .int .i64 x.kind, .string x.val], .pointer (some ⟨b4, 0, none⟩), .pointer (some ⟨b5, 0, none⟩)] w fun e w' => e = .returned (.bool (ahd x k q)) ∧ Below w.heap.size w w' := by
  have R0 := RowAt.new x w
  have W0 := Lib.hid (below_alloc w (.cells #[.string x.key, .int .u64 (x.seq : Int), .int .i64 x.kind, .string x.val] 33))
  have d4 := cell_keep W0.out c4
  have d5 := cell_keep W0.out c5
  have BC := Lib.hid (fun u => before_any x k q u)
  obtain ⟨T, hT⟩ := named (ahd x k q)
  rw [← hT.out] at BC ⊢
  obtain ⟨xk, xs, xi, xv⟩ := x
  simp only at *
  obtain ⟨x0, x1, x2, x3⟩ := R0.c4
  go_enter Try.func17, Try.ntmps17
  go_wp2_with (go_at_call 18; ((with_reducible refine (BC.out _).mono ?_); rintro e w1 ⟨rfl, hb1⟩))
  go_returns
  exact ⟨rfl, below_of W0.out hb1⟩
theorem ahead_enters : ∀ (args : Array Value) (w : World), (callFunc 17 args).run Try.prog w = .ok (.enter 17 args) w := enters_of Try.func17 (by kernel_rfl) rfl
theorem at_enters : ∀ (args : Array Value) (w : World), (callFunc 20 args).run Try.prog w = .ok (.enter 20 args) w := enters_of Try.func20 (by kernel_rfl) rfl
set_option maxRecDepth 100000 in
set_option maxHeartbeats 2000000 in
theorem at_clo {p : Option Addr} {n c b o : Nat} {l : List Rw} {w : World} (h : Rs p n c b o l w) (j : Nat) (hj : j < n) (k : ByteArray) (q b4 b5 b8 b13 : Nat) (c4 : w.cell? ⟨b4, 0, none⟩ = some (.string k)) (c5 : w.cell? ⟨b5, 0, none⟩ = some (.int .u64 (q : Int)))
    (c8 : w.cell? ⟨b8, 0, none⟩ = some (.slice p n c)) (c13 : w.cell? ⟨b13, 0, none⟩ = some (.func (.func 17) #[] #[.pointer (some ⟨b4, 0, none⟩), .pointer (some ⟨b5, 0, none⟩)])) :
    Calls Try.prog 20 #[.int .i64 (j : Int), .pointer (some ⟨b13, 0, none⟩), .pointer (some ⟨b8, 0, none⟩)] w fun e w' => e = .returned (.bool (ahd (rwAt l j) k q)) ∧ Below w.heap.size w w' := by
  obtain ⟨x, hx, rfl, x0, x1, x2, x3⟩ := h.at4 hj
  rw [rwAt_some hx]
  have hE := ahead_enters
  have m0 := h.most
  have q0 := h.cap
  have AC := Lib.hid (ahead_clo x k q b4 b5 w.drew c4 c5)
  obtain ⟨T, hT⟩ := named (ahd x k q)
  rw [← hT.out] at AC ⊢
  obtain ⟨xk, xs, xi, xv⟩ := x
  simp only at x0 x1 x2 x3 AC
  have i0 : (j : Int) < (n : Int) := by omega
  have B0 := Lib.hid (Below.refl w.heap.size w).drew
  clear h hx
  go_enter Try.func20, Try.ntmps20
  go_upto_region 1 with fail
  refine wp_region_held_drew (S := (fun v => (v.cell? ⟨b13, 0, none⟩ = some (.func (.func 17) #[] #[.pointer (some ⟨b4, 0, none⟩), .pointer (some ⟨b5, 0, none⟩)]) ∧ v.cell? ⟨b8, 0, none⟩ = some (.slice (some ⟨b, o, none⟩) n c) ∧ v.cell? ⟨b, o + j * 4, none⟩ = some (.string xk) ∧ v.cell? ⟨b, o + j * 4 + 1, none⟩ = some (.int .u64 (xs : Int)) ∧ v.cell? ⟨b, o + j * 4 + 2, none⟩ = some (.int .i64 xi) ∧ v.cell? ⟨b, o + j * 4 + 3, none⟩ = some (.string xv)) ∧ Hid (Below w.heap.size w v))) (by kernel_rfl) (⟨⟨c13, c8, x0, x1, x2, x3⟩, B0⟩) (fun hHeld => ?_)
  refine held_take (i := 0) (v := ?_) rfl (by kernel_rfl) (by kernel_rfl) (by kernel_rfl) (fun _ _ _ h => h) (by rfl) (fun w hSw => ?_) (by assumption) ?_; rotate_left 1; focus (((try dsimp only at hSw); first | (go_simp; done) | (go_simp; with_reducible rfl)))
  try simp only [Act.put, List.setIfInBounds_toArray, List.set_cons_zero, List.set_cons_succ]
  refine held_take (i := 1) (v := ?_) rfl (by kernel_rfl) (by kernel_rfl) (by kernel_rfl) (fun _ _ _ h => h) (by rfl) (fun w hSw => ?_) (by assumption) ?_; rotate_left 1; focus (((try dsimp only at hSw); first | (go_simp; done) | (go_simp; with_reducible rfl)))
  try simp only [Act.put, List.setIfInBounds_toArray, List.set_cons_zero, List.set_cons_succ]
  refine held_take (i := 2) (v := ?_) rfl (by kernel_rfl) (by kernel_rfl) (by kernel_rfl) (fun _ _ _ h => h) (by rfl) (fun w hSw => ?_) (by assumption) ?_; rotate_left 1; focus (((try dsimp only at hSw); first | (go_simp; done) | (go_simp; with_reducible rfl)))
  try simp only [Act.put, List.setIfInBounds_toArray, List.set_cons_zero, List.set_cons_succ]
  refine held_take (i := 3) (v := ?_) rfl (by kernel_rfl) (by kernel_rfl) (by kernel_rfl) (fun _ _ _ h => h) (by rfl) (fun w hSw => ?_) (by assumption) ?_; rotate_left 1; focus (((try dsimp only at hSw); first | (go_simp; done) | (go_simp; with_reducible rfl)))
  try simp only [Act.put, List.setIfInBounds_toArray, List.set_cons_zero, List.set_cons_succ]
  refine held_take (i := 4) (v := ?_) rfl (by kernel_rfl) (by kernel_rfl) (by kernel_rfl) (fun _ _ _ h => h) (by rfl) (fun w hSw => ?_) (by assumption) ?_; rotate_left 1; focus (((try dsimp only at hSw); first | (go_simp; done) | (go_simp; with_reducible rfl)))
  try simp only [Act.put, List.setIfInBounds_toArray, List.set_cons_zero, List.set_cons_succ]
  refine held_call (i := 5) (by kernel_rfl) rfl (by rfl) (fun K hK => ?_)
  go_simp
  refine AC.out.mono ?_
  rintro e u1 ⟨rfl, hb1⟩
  have B1 := Lib.hid (below_of (w := w) B0.out hb1)
  clear hb1
  refine hK.out _ _ (⟨⟨cell_keep B1.out c13, cell_keep B1.out c8, cell_keep B1.out x0, cell_keep B1.out x1, cell_keep B1.out x2, cell_keep B1.out x3⟩, B1⟩) (fun hHeld => ?_)
  try simp only [Act.put, List.setIfInBounds_toArray, List.set_cons_zero, List.set_cons_succ]
  refine held_take (i := 6) (v := ?_) rfl (by kernel_rfl) (by kernel_rfl) (by kernel_rfl) (fun _ _ _ h => h) (by rfl) (fun w hSw => ?_) (by assumption) ?_; rotate_left 1; focus (((try dsimp only at hSw); first | (go_simp; done) | (go_simp; with_reducible rfl)))
  try simp only [Act.put, List.setIfInBounds_toArray, List.set_cons_zero, List.set_cons_succ]
  refine wpAnyH_done (by kernel_rfl) ?_ _
  go_wp2_with fail
  go_returns
  exact ⟨rfl, hHeld.2.out⟩
theorem wrap64_small (x : Int) (h1 : -1 ≤ x) (h2 : x ≤ 1000000) : wrap64 x = x := by unfold wrap64; omega
theorem wrapi_small (x : Int) (h1 : -1 ≤ x) (h2 : x ≤ 1000000) : IntKind.i64.wrap x = x := by rw [IntKind.wrap_i64]; omega
theorem wrapi_nat (x : Nat) (h2 : x ≤ 1000000) : IntKind.i64.wrap (x : Int) = x := by rw [IntKind.wrap_i64]; omega
/-- The restarts' rows. -/
def numsI (d k : Nat) : List Value := (List.range k).map fun j => Value.int .i64 ((j * d : Nat) : Int)
theorem numsI_snoc (d k : Nat) : numsI d (k + 1) = numsI d k ++ [.int .i64 ((k * d : Nat) : Int)] := by simp [numsI, List.range_succ]
theorem numsI_len (d k : Nat) : (numsI d k).length = k := by simp [numsI]
theorem numsI_at (d : Nat) {k j : Nat} (h : j < k) : (numsI d k)[j]? = some (.int .i64 ((j * d : Nat) : Int)) := by
  unfold numsI
  rw [List.getElem?_map, List.getElem?_range h]; rfl
theorem info_intB : (Try.prog.info? 3).map (fun i => (i.zero, i.size, i.bytes)) = some (some (.int .i64 0), 1, 8) := by kernel_rfl
theorem nums_cells {w : World} {B d k c : Nat} {p : Option Addr} (h : w.ownsRow B 3 1 (.slice p k c) k (numsI d k)) : k ≤ c ∧ c ≤ 9223372036854775807 ∧ ∀ j, j < k → ∃ b, p = some ⟨b, 0, none⟩ ∧ w.cell? ⟨b, j, none⟩ = some (.int .i64 ((j * d : Nat) : Int)) := by
  rcases h.2 with ⟨e, hz⟩ | ⟨g, cap, cur, e, hg, hb, hn, hm, hs, ht⟩
  · simp only [Value.slice.injEq] at e
    obtain ⟨rfl, rfl, rfl⟩ := e
    exact ⟨Nat.le_refl _, by omega, fun j hj => absurd hj (by omega)⟩
  · simp only [Value.slice.injEq, true_and] at e
    obtain ⟨rfl, rfl⟩ := e
    refine ⟨hn, hm, fun j hj => ⟨g, rfl, ?_⟩⟩
    exact (World.ownsRow.cellAt h j (by omega)).trans (numsI_at d hj)
/-- What Seek answers. -/
def SeekD (L : List UInt8) (k : ByteArray) (q : Nat) (w : World) (e : Ending) (w' : World) : Prop :=
  (∃ l d a c b o, IsB L l d ∧ e = .returned (.tuple #[.slice a (l.length - plc l k q) c, .int .i64 0]) ∧ Rs a (l.length - plc l k q) c b o (l.drop (plc l k q)) w' ∧ Below w.heap.size w w') ∨
  ((∀ l d, ¬ IsB L l d) ∧ e = .returned (.tuple #[.slice none 0 0, .int .i64 7]) ∧ Below w.heap.size w w')
set_option maxRecDepth 100000 in
set_option maxHeartbeats 8000000 in
theorem seek_any (L : List UInt8) (hL : L.length ≤ 1048576) (key : ByteArray) (q : Nat) (w : World) :
    Calls Try.prog 9 #[.string ⟨L.toArray⟩, .string key, .int .u64 (q : Int)] w (SeekD L key q w) := by
  have DC := Lib.hid (fun u => decode_any L hL u)
  have mf := makes_func
  have W0 := Lib.hid (below_of (below_alloc w (.cells #[.string key] 9)) (below_alloc (w.alloc (.cells #[.string key] 9)) (.cells #[.int .u64 (q : Int)] 29)))
  have b4 : ((w.alloc (.cells #[.string key] 9)).alloc (.cells #[.int .u64 (q : Int)] 29)).cell? ⟨w.heap.size, 0, none⟩ = some (.string key) := cell_keep (below_alloc _ _) (by rw [World.cell?_alloc_new]; rfl)
  have b5 : ((w.alloc (.cells #[.string key] 9)).alloc (.cells #[.int .u64 (q : Int)] 29)).cell? ⟨w.heap.size + 1, 0, none⟩ = some (.int .u64 (q : Int)) := by
    have := World.cell?_alloc_new (w.alloc (.cells #[.string key] 9)) #[.int .u64 (q : Int)] 29 0
    rw [World.size_alloc] at this
    rw [this]; rfl
  have b4 := Lib.hid b4
  have b5 := Lib.hid b5
  go_enter Try.func9, Try.ntmps9
  go_wp2_with fail
  refine (DC.out _).mono ?_
  generalize (w.alloc (.cells #[.string key] 9)).alloc (.cells #[.int .u64 (q : Int)] 29) = W2 at *
  rintro e w3 (⟨l, d, a, c, b, hB, rfl, hRs, hbb, hw⟩ | ⟨hno, rfl, hw⟩)
  · have W3 := Lib.hid (below_of W0.out hw)
    have c4 := cell_keep hw b4.out
    have c5 := cell_keep hw b5.out
    have hRs := Lib.hid hRs
    have hB := Lib.hid hB
    clear hbb hw b4 b5 W0
    have SD : Hid (∀ e w', (∃ a c b o, e = .returned (.tuple #[.slice a (l.length - plc l key q) c, .int .i64 0]) ∧ Rs a (l.length - plc l key q) c b o (l.drop (plc l key q)) w' ∧ Below w.heap.size w w') → SeekD L key q w e w') := Lib.hid (fun e w' ⟨a, c, b, o, h1, h2, h3⟩ => .inl ⟨l, d, a, c, b, o, hB.out, h1, h2, h3⟩)
    obtain ⟨k1, k2, k3, _, k5⟩ := chkA_ok hB.out.1
    have k3 := Lib.hid k3
    obtain ⟨n, hn⟩ : ∃ n, l.length = n := ⟨_, rfl⟩
    rw [hn] at hRs SD k5 ⊢
    have m0 := hRs.out.most
    have q0 := hRs.out.cap
    have hn := Lib.hid hn
    have A4 := Lib.hid (below_alloc w3 (.cells #[.slice a n c] 23))
    have W4 := Lib.hid (below_of W3.out A4.out)
    have R4 := Lib.hid (hRs.out.below A4.out (Nat.le_refl _))
    have d4 := cell_keep A4.out c4
    have d5 := cell_keep A4.out c5
    have d8 : (w3.alloc (.cells #[.slice a n c] 23)).cell? ⟨w3.heap.size, 0, none⟩ = some (.slice a n c) := by rw [World.cell?_alloc_new]; rfl
    go_wp2_with fail
    clear c4 c5 W3 hRs A4
    generalize hb8 : w3.heap.size = b8 at *
    generalize w3.alloc (.cells #[.slice a n c] 23) = V4 at *
    have CK := Lib.hid (fun u (hu : Below V4.heap.size V4 u) => And.intro (cell_keep hu d4) (And.intro (cell_keep hu d5) (And.intro (cell_keep hu d8) (R4.out.below hu (Nat.le_refl _)))))
    clear d4 d5 d8 hb8
    obtain ⟨i0, hi, hz0, hz1, hz2⟩ := info_parts info_intB
    have hn' : n ≤ 1024 := k5
    have hd1 : 1 ≤ d := by omega
    go_loopw [11, 12] (fun v i wr => ∃ (k : Nat) (p : Option Addr) (cc : Nat), v = .slice p k cc ∧ i = .int .i64 ((k * d : Nat) : Int) ∧ (∀ j, j < k → j * d < n) ∧ k ≤ n ∧ wr.ownsRow V4.heap.size 3 1 (.slice p k cc) k (numsI d k) ∧ Below V4.heap.size V4 wr) (fun _ i _ => n + 64 - (intOf i).toNat)
    case atStart => exact ⟨0, none, 0, rfl, by simp, fun j hj => absurd hj (by omega), Nat.zero_le _, World.ownsRow_nil _ _ _ _, Below.refl _ _⟩
    case round =>
      obtain ⟨k, p, cc, rfl, rfl, hk1, hk2, hrow, hb⟩ := hrel
      obtain ⟨c4, c5, c8, RR⟩ := CK.out wr hb
      obtain ⟨I, hI⟩ := named (k * d)
      rw [← hI.out]
      by_cases hlt : I < n
      · have i1 : (I : Int) < (n : Int) := by omega
        have hk3 : k < n := by
          rcases Nat.lt_or_ge k n with h | h
          · exact h
          · have := Nat.mul_le_mul_left k hd1
            rw [Nat.mul_one, ← hI.out] at this
            omega
        have hrow := Lib.hid hrow
        have hb := Lib.hid hb
        have hI2 : Hid ((I : Int) + (d : Int) = (((k + 1) * d : Nat) : Int)) := Lib.hid (by rw [hI.out, Nat.add_mul, Nat.one_mul]; omega)
        have hk4 : Hid (∀ j, j < k + 1 → j * d < n) := Lib.hid (fun j hj => by
          rcases Nat.lt_or_ge j k with h | h
          · exact hk1 j h
          · have : j = k := by omega
            rw [this, ← hI.out]; exact hlt)
        have hIH := Lib.hid hI.out
        clear RR hk1
        go_wp2_with (at_builtin; refine wpList_append_own _ rfl _ _ 42 rfl V4.heap.size 3 i0 (.int .i64 0) 1 8 Try.underlying42 hi hz0 hz1 hz2 rfl (by decide) (.slice p k cc) k (numsI d k) (by rfl) (own_belowB hrow.out (below_alloc wr (.cells #[.int .i64 (I : Int)] 3))) ⟨wr.heap.size, 0, none⟩ 1 1 [.int .i64 (I : Int)] (by rfl) rfl (cell_one_new _ _ _) (by intro u hu; simp only [List.mem_cons, List.not_mem_nil, or_false] at hu; rw [hu]; rfl) (by unfold maxLen; omega) (by omega) (by have := hb.out.size; rw [World.size_alloc]; omega) ?_; intro v' w9 hown9 hgrow9 _; have O9 := Lib.hid hown9; have B9 := Lib.hid ((hb.out.alloc hb.out.size _).grown hgrow9 (by have := hb.out.size; rw [World.size_alloc]; omega) (fun k hk => (World.ownsRow.lt hrow.out k hk).1)); clear hown9 hgrow9; obtain ⟨a2, c2', hv2⟩ : ∃ a2 c2', v' = .slice a2 (k + 1) c2' := (by rcases O9.out.2 with ⟨e1, e0⟩ | ⟨g', cap, cur, e1, _⟩; exact absurd e0 (by omega); exact ⟨_, _, e1⟩); subst hv2; have C8 := (CK.out w9 B9.out).2.2.1)
        refine ⟨⟨k + 1, a2, c2', rfl, ?_, ?_, hk3, ?_, ?_⟩, ?_⟩
        · rw [hI2.out]
        · exact hk4.out
        · rw [numsI_snoc, ← hIH.out]; exact O9.out
        · exact B9.out
        · simp [intOf]; omega
      · have hno : ¬ (I : Int) < (n : Int) := by omega
        have hK1 : Hid (n ≤ k * d) := Lib.hid (by rw [← hI.out]; omega)
        have hK2 := Lib.hid hk1
        have hb := Lib.hid hb
        obtain ⟨nc1, nc2, nc3⟩ := nums_cells hrow
        have nc3 := Lib.hid nc3
        clear hrow RR hlt hI
        obtain ⟨FV, hFV⟩ := named (Value.func (.func 17) #[] #[.pointer (some ⟨w.heap.size, 0, none⟩), .pointer (some ⟨w.heap.size + 1, 0, none⟩)])
        have hFVc := Lib.hid hFV.out
        clear hFVc hFV FV
        have A6 := Lib.hid (below_alloc wr (.cells #[.func (.func 17) #[] #[.pointer (some ⟨w.heap.size, 0, none⟩), .pointer (some ⟨w.heap.size + 1, 0, none⟩)]] 44))
        have d13 : (wr.alloc (.cells #[.func (.func 17) #[] #[.pointer (some ⟨w.heap.size, 0, none⟩), .pointer (some ⟨w.heap.size + 1, 0, none⟩)]] 44)).cell? ⟨wr.heap.size, 0, none⟩ = some (.func (.func 17) #[] #[.pointer (some ⟨w.heap.size, 0, none⟩), .pointer (some ⟨w.heap.size + 1, 0, none⟩)]) := by rw [World.cell?_alloc_new]; rfl
        have d13 := Lib.hid d13
        have W6 := Lib.hid (hb.out.trans (A6.out.mono hb.out.size))
        have FN := Lib.hid (find_nums 20 wr.heap.size b8 at_enters (fun j => ahd (rwAt l (j * d)) key q) (fun j => j * d) (p := p) (n := k) (c := cc) (w := wr.alloc (.cells #[.func (.func 17) #[] #[.pointer (some ⟨w.heap.size, 0, none⟩), .pointer (some ⟨w.heap.size + 1, 0, none⟩)]] 44)) nc1 nc2 (by omega)
          (fun u hu j hj => by
            obtain ⟨bb, e1, e2⟩ := nc3.out j hj
            exact ⟨bb, e1, cell_keep hu (cell_keep A6.out e2)⟩)
          (fun i j hij hj hp => place_anti k3.out (Nat.mul_le_mul_right d hij) (by rw [hn.out]; exact hK2.out j hj) hp)
          (fun u hu j hj => by
            obtain ⟨c4, c5, c8, RR⟩ := CK.out u (W6.out.trans (hu.mono W6.out.size))
            exact at_clo RR (j * d) (hK2.out j hj) key q w.heap.size (w.heap.size + 1) b8 wr.heap.size c4 c5 c8 (cell_keep hu d13.out)))
        clear nc3 A6
        go_upto_region 11 with (go_at_call 19; ((with_reducible refine FN.out.mono ?_); rintro e w7 ⟨m, hm, rfl, hb7⟩))
        have W7 := Lib.hid (W6.out.trans (hb7.mono W6.out.size))
        have e13 := cell_keep hb7 d13.out
        clear hb7 FN d13
        obtain ⟨c4, c5, c8, RR⟩ := CK.out w7 W7.out
        have hmk := hm.1
        have hm := Lib.hid hm
        obtain ⟨M1, hM1⟩ := named (m - 1)
        obtain ⟨F, hF⟩ := named (M1 * d)
        obtain ⟨MD, hMD⟩ := named (m * d)
        obtain ⟨U, hU⟩ := named (min MD n)
        have hM1m : M1 ≤ m ∧ (m = 0 → M1 = 0) ∧ (m ≠ 0 → m = M1 + 1) := by rw [hM1.out]; omega
        have hFn : F ≤ n := by
          rw [hF.out]
          by_cases hm0 : m = 0
          · rw [hM1m.2.1 hm0]; omega
          · exact Nat.le_of_lt (hK2.out M1 (by have := hM1m.2.2 hm0; omega))
        have hMDn : MD ≤ n + 64 := by
          rw [hMD.out]
          by_cases hm0 : m = 0
          · rw [hm0]; omega
          · rw [hM1m.2.2 hm0, Nat.add_mul, Nat.one_mul, ← hF.out]; omega
        have hFMD : F ≤ MD := by rw [hF.out, hMD.out]; exact Nat.mul_le_mul_right d hM1m.1
        have hFU : F ≤ U := by rw [hU.out]; omega
        have hUn : U ≤ n := by rw [hU.out]; omega
        have MX : ∀ (ts : Array TypeId) (t : TypeId) (u : World), (Builtin.max_ ts t #[.int .i64 ((m : Int) - 1), .int .i64 0]).run Try.prog u = .ok (.int .i64 (M1 : Int)) u := by
          intro ts t u
          rw [run_max_int2]
          have e : (if (0 : Int) > (m : Int) - 1 then (0 : Int) else (m : Int) - 1) = (M1 : Int) := by rw [hM1.out]; split <;> omega
          rw [e]
        have MN : ∀ (ts : Array TypeId) (t : TypeId) (u : World), (Builtin.min_ ts t #[.int .i64 (MD : Int), .int .i64 (n : Int)]).run Try.prog u = .ok (.int .i64 (U : Int)) u := by
          intro ts t u
          rw [run_min_int2]
          have e : (if (n : Int) < (MD : Int) then (n : Int) else (MD : Int)) = (U : Int) := by rw [hU.out]; split <;> omega
          rw [e]
        have hm1024 : m ≤ 1024 := by omega
        have w2h : Hid (IntKind.i64.wrap (F : Int) = (F : Int)) := Lib.hid (wrapi_nat F (by omega))
        have w3h : Hid (IntKind.i64.wrap (MD : Int) = (MD : Int)) := Lib.hid (wrapi_nat MD (by omega))
        have w1 : wrap64 ((m : Int) - 1) = (m : Int) - 1 := wrap64_small _ (by omega) (by omega)
        have w2 : wrap64 (F : Int) = (F : Int) := wrap64_small _ (by omega) (by omega)
        have w3 : wrap64 (MD : Int) = (MD : Int) := wrap64_small _ (by omega) (by omega)
        have w1b : IntKind.i64.wrap ((m : Int) - 1) = (m : Int) - 1 := wrapi_small _ (by omega) (by omega)
        have pF : (M1 : Int) * (d : Int) = (F : Int) := by rw [hF.out, Int.natCast_mul]
        have pM : (m : Int) * (d : Int) = (MD : Int) := by rw [hMD.out, Int.natCast_mul]
        have FC : Hid (F = (m - 1) * d) := Lib.hid (by rw [hF.out, hM1.out])
        have UC : Hid (U = min (m * d) n) := Lib.hid (by rw [hU.out, hMD.out])
        clear hM1m hM1 hF hMD hU hFMD hMDn
        have W8 := Lib.hid W7.out.drew
        have w2b := w2h.out
        have w3b := w3h.out
        refine wp_region_held_drew (S := (fun v => v.cell? ⟨b8, 0, none⟩ = some (.slice a n c))) (by kernel_rfl) (c8) (fun hHeld => ?_)
        refine held_take (i := 0) (v := ?_) rfl (by kernel_rfl) (by kernel_rfl) (by kernel_rfl) (fun _ _ _ h => h) (by rfl) (fun w hSw => ?_) (by assumption) ?_; rotate_left 1; focus (((try dsimp only at hSw); first | (go_simp; done) | (go_simp; with_reducible rfl)))
        try simp only [Act.put, List.setIfInBounds_toArray, List.set_cons_zero, List.set_cons_succ]
        refine held_take (i := 1) (v := ?_) rfl (by kernel_rfl) (by kernel_rfl) (by kernel_rfl) (fun _ _ _ h => h) (by rfl) (fun w hSw => ?_) (by assumption) ?_; rotate_left 1; focus (((try dsimp only at hSw); first | (go_simp; done) | (go_simp; with_reducible rfl)))
        try simp only [Act.put, List.setIfInBounds_toArray, List.set_cons_zero, List.set_cons_succ]
        refine held_take (i := 2) (v := ?_) rfl (by kernel_rfl) (by kernel_rfl) (by kernel_rfl) (fun _ _ _ h => h) (by rfl) (fun w hSw => ?_) (by assumption) ?_; rotate_left 1; focus (((try dsimp only at hSw); first | (go_simp; done) | (go_simp; with_reducible rfl)))
        try simp only [Act.put, List.setIfInBounds_toArray, List.set_cons_zero, List.set_cons_succ]
        refine held_take (i := 3) (v := ?_) rfl (by kernel_rfl) (by kernel_rfl) (by kernel_rfl) (fun _ _ _ h => h) (by rfl) (fun w hSw => ?_) (by assumption) ?_; rotate_left 1; focus (((try dsimp only at hSw); first | (go_simp; done) | (go_simp; with_reducible rfl)))
        try simp only [Act.put, List.setIfInBounds_toArray, List.set_cons_zero, List.set_cons_succ]
        refine held_take (i := 4) (v := ?_) rfl (by kernel_rfl) (by kernel_rfl) (by kernel_rfl) (fun _ _ _ h => h) (by rfl) (fun w hSw => ?_) (by assumption) ?_; rotate_left 1; focus (((try dsimp only at hSw); first | (go_simp; done) | (go_simp; with_reducible rfl)))
        try simp only [Act.put, List.setIfInBounds_toArray, List.set_cons_zero, List.set_cons_succ]
        refine held_take (i := 5) (v := ?_) rfl (by kernel_rfl) (by kernel_rfl) (by kernel_rfl) (fun _ _ _ h => h) (by rfl) (fun w hSw => ?_) (by assumption) ?_; rotate_left 1; focus (((try dsimp only at hSw); first | (go_simp; done) | (go_simp; with_reducible rfl)))
        try simp only [Act.put, List.setIfInBounds_toArray, List.set_cons_zero, List.set_cons_succ]
        refine held_take (i := 6) (v := ?_) rfl (by kernel_rfl) (by kernel_rfl) (by kernel_rfl) (fun _ _ _ h => h) (by rfl) (fun w hSw => ?_) (by assumption) ?_; rotate_left 1; focus (((try dsimp only at hSw); first | (go_simp; done) | (go_simp; with_reducible rfl)))
        try simp only [Act.put, List.setIfInBounds_toArray, List.set_cons_zero, List.set_cons_succ]
        refine held_take (i := 7) (v := ?_) rfl (by kernel_rfl) (by kernel_rfl) (by kernel_rfl) (fun _ _ _ h => h) (by rfl) (fun w hSw => ?_) (by assumption) ?_; rotate_left 1; focus (((try dsimp only at hSw); first | (go_simp; done) | (go_simp; with_reducible rfl)))
        try simp only [Act.put, List.setIfInBounds_toArray, List.set_cons_zero, List.set_cons_succ]
        refine held_take (i := 8) (v := ?_) rfl (by kernel_rfl) (by kernel_rfl) (by kernel_rfl) (fun _ _ _ h => h) (by rfl) (fun w hSw => ?_) (by assumption) ?_; rotate_left 1; focus (((try dsimp only at hSw); first | (go_simp; done) | (go_simp; with_reducible rfl)))
        try simp only [Act.put, List.setIfInBounds_toArray, List.set_cons_zero, List.set_cons_succ]
        refine held_take (i := 9) (v := ?_) rfl (by kernel_rfl) (by kernel_rfl) (by kernel_rfl) (fun _ _ _ h => h) (by rfl) (fun w hSw => ?_) (by assumption) ?_; rotate_left 1; focus (((try dsimp only at hSw); first | (go_simp; done) | (go_simp; with_reducible rfl)))
        try simp only [Act.put, List.setIfInBounds_toArray, List.set_cons_zero, List.set_cons_succ]
        refine held_take (i := 10) (v := ?_) rfl (by kernel_rfl) (by kernel_rfl) (by kernel_rfl) (fun _ _ _ h => h) (by rfl) (fun w hSw => ?_) (by assumption) ?_; rotate_left 1; focus (((try dsimp only at hSw); first | (go_simp; done) | (go_simp; with_reducible rfl)))
        try simp only [Act.put, List.setIfInBounds_toArray, List.set_cons_zero, List.set_cons_succ]
        refine held_take (i := 11) (v := ?_) rfl (by kernel_rfl) (by kernel_rfl) (by kernel_rfl) (fun _ _ _ h => h) (by rfl) (fun w hSw => ?_) (by assumption) ?_; rotate_left 1; focus (((try dsimp only at hSw); first | (go_simp; done) | (go_simp; with_reducible rfl)))
        try simp only [Act.put, List.setIfInBounds_toArray, List.set_cons_zero, List.set_cons_succ]
        refine held_take (i := 12) (v := ?_) rfl (by kernel_rfl) (by kernel_rfl) (by kernel_rfl) (fun _ _ _ h => h) (by rfl) (fun w hSw => ?_) (by assumption) ?_; rotate_left 1; focus (((try dsimp only at hSw); first | (go_simp; done) | (go_simp; with_reducible rfl)))
        try simp only [Act.put, List.setIfInBounds_toArray, List.set_cons_zero, List.set_cons_succ]
        refine wpAnyH_done (by kernel_rfl) ?_ _
        clear MX MN pF pM w1 w2 w3 w1b w2b w3b
        have SM := slr_mid a n c F U hFU (by omega)
        have RM := (CK.out w7.drew.drew W8.out.drew).2.2.2.mid hFU hUn
        have FR := Lib.hid (find_rows 17 w.heap.size (w.heap.size + 1) ahead_enters (fun j => ahd (rwAt l (F + j)) key q) RM (by omega)
          (fun i j hij hj hp => place_anti k3.out (Nat.add_le_add_left hij F) (by rw [hn.out]; omega) hp)
          (fun u hu j v hv => by
            obtain ⟨c4, c5, _, _⟩ := CK.out u (W8.out.drew.trans (hu.mono W8.out.drew.size))
            have hv2 : l[F + j]? = some v := by
              rw [List.getElem?_drop, List.getElem?_take] at hv
              split at hv
              · exact hv
              · cases hv
            show Calls _ _ _ u fun e u' => e = .returned (.bool (ahd (rwAt l (F + j)) key q)) ∧ Below u.heap.size u u'
            rw [rwAt_some hv2]
            exact ahead_clo v key q _ _ u c4 c5))
        have PL : Hid (∀ r, Cut (U - F) (fun j => ahd (rwAt l (F + j)) key q) r → F + r = plc l key q) := Lib.hid (fun r hr => seek_at k3.out hd1 (by rw [hn.out]; exact hK1.out) (fun j hj => by rw [hn.out]; exact hK2.out j hj) hm.out FC.out (by rw [hn.out]; exact UC.out) hr)
        obtain ⟨ZA, hZA⟩ := named (fromA a c F)
        obtain ⟨ZN, hZN⟩ := named (U - F)
        obtain ⟨ZC, hZC⟩ := named (c - F)
        rw [← hZA.out, ← hZN.out, ← hZC.out] at SM FR
        have hZU : F + ZN = U := by rw [hZN.out]; omega
        rw [← hZN.out] at PL
        clear RM hZN hZC hZA
        go_upto_region 12 with fail
        refine wp_region_held_drew (S := (fun v => (v.cell? ⟨b8, 0, none⟩ = some (.slice a n c) ∧ v.cell? ⟨wr.heap.size, 0, none⟩ = some (.func (.func 17) #[] #[.pointer (some ⟨w.heap.size, 0, none⟩), .pointer (some ⟨w.heap.size + 1, 0, none⟩)])) ∧ Hid (Below V4.heap.size V4 v))) (by kernel_rfl) (⟨⟨c8, e13⟩, Lib.hid W8.out.drew⟩) (fun hHeld => ?_)
        refine held_take (i := 0) (v := ?_) rfl (by kernel_rfl) (by kernel_rfl) (by kernel_rfl) (fun _ _ _ h => h) (by rfl) (fun w hSw => ?_) (by assumption) ?_; rotate_left 1; focus (((try dsimp only at hSw); first | (go_simp; done) | (go_simp; with_reducible rfl)))
        try simp only [Act.put, List.setIfInBounds_toArray, List.set_cons_zero, List.set_cons_succ]
        refine held_take (i := 1) (v := ?_) rfl (by kernel_rfl) (by kernel_rfl) (by kernel_rfl) (fun _ _ _ h => h) (by rfl) (fun w hSw => ?_) (by assumption) ?_; rotate_left 1; focus (((try dsimp only at hSw); first | (go_simp; done) | (go_simp; with_reducible rfl)))
        try simp only [Act.put, List.setIfInBounds_toArray, List.set_cons_zero, List.set_cons_succ]
        refine held_take (i := 2) (v := ?_) rfl (by kernel_rfl) (by kernel_rfl) (by kernel_rfl) (fun _ _ _ h => h) (by rfl) (fun w hSw => ?_) (by assumption) ?_; rotate_left 1; focus (((try dsimp only at hSw); first | (go_simp; done) | (go_simp; with_reducible rfl)))
        try simp only [Act.put, List.setIfInBounds_toArray, List.set_cons_zero, List.set_cons_succ]
        refine held_take (i := 3) (v := ?_) rfl (by kernel_rfl) (by kernel_rfl) (by kernel_rfl) (fun _ _ _ h => h) (by rfl) (fun w hSw => ?_) (by assumption) ?_; rotate_left 1; focus (((try dsimp only at hSw); first | (go_simp; done) | (go_simp; with_reducible rfl)))
        try simp only [Act.put, List.setIfInBounds_toArray, List.set_cons_zero, List.set_cons_succ]
        refine held_take (i := 4) (v := ?_) rfl (by kernel_rfl) (by kernel_rfl) (by kernel_rfl) (fun _ _ _ h => h) (by rfl) (fun w hSw => ?_) (by assumption) ?_; rotate_left 1; focus (((try dsimp only at hSw); first | (go_simp; done) | (go_simp; with_reducible rfl)))
        try simp only [Act.put, List.setIfInBounds_toArray, List.set_cons_zero, List.set_cons_succ]
        refine held_take (i := 5) (v := ?_) rfl (by kernel_rfl) (by kernel_rfl) (by kernel_rfl) (fun _ _ _ h => h) (by rfl) (fun w hSw => ?_) (by assumption) ?_; rotate_left 1; focus (((try dsimp only at hSw); first | (go_simp; done) | (go_simp; with_reducible rfl)))
        try simp only [Act.put, List.setIfInBounds_toArray, List.set_cons_zero, List.set_cons_succ]
        refine held_take (i := 6) (v := ?_) rfl (by kernel_rfl) (by kernel_rfl) (by kernel_rfl) (fun _ _ _ h => h) (by rfl) (fun w hSw => ?_) (by assumption) ?_; rotate_left 1; focus (((try dsimp only at hSw); first | (go_simp; done) | (go_simp; with_reducible rfl)))
        try simp only [Act.put, List.setIfInBounds_toArray, List.set_cons_zero, List.set_cons_succ]
        refine held_call (i := 7) (by kernel_rfl) rfl (by rfl) (fun K hK => ?_)
        go_simp
        (go_at_call 21; ((with_reducible refine FR.out.mono ?_); rintro e u8 ⟨r, hr, rfl, hb8⟩))
        have W9 := Lib.hid (W8.out.drew.trans (hb8.mono W8.out.drew.size))
        have hb8 := Lib.hid hb8
        have hFr : F + r ≤ n := by have := hr.1; omega
        have hpl := Lib.hid (PL.out r hr)
        have SF := slr_from a n c (F + r) hFr ((F : Int) + (r : Int)) (by omega)
        have w4h := Lib.hid (wrapi_small ((F : Int) + (r : Int)) (by omega) (by omega))
        have w4 : wrap64 ((F : Int) + (r : Int)) = (F : Int) + (r : Int) := wrap64_small _ (by omega) (by omega)
        obtain ⟨QA, hQA⟩ := named (fromA a c (F + r))
        obtain ⟨QN, hQN⟩ := named (n - (F + r))
        obtain ⟨QC, hQC⟩ := named (c - (F + r))
        rw [← hQA.out, ← hQN.out, ← hQC.out] at SF
        have w4b := w4h.out
        refine hK.out _ _ (⟨⟨cell_keep hb8.out c8, cell_keep hb8.out e13⟩, W9⟩) (fun hHeld => ?_)
        try simp only [Act.put, List.setIfInBounds_toArray, List.set_cons_zero, List.set_cons_succ]
        refine held_take (i := 8) (v := ?_) rfl (by kernel_rfl) (by kernel_rfl) (by kernel_rfl) (fun _ _ _ h => h) (by rfl) (fun w hSw => ?_) (by assumption) ?_; rotate_left 1; focus (((try dsimp only at hSw); first | (go_simp; done) | (go_simp; with_reducible rfl)))
        try simp only [Act.put, List.setIfInBounds_toArray, List.set_cons_zero, List.set_cons_succ]
        refine held_take (i := 9) (v := ?_) rfl (by kernel_rfl) (by kernel_rfl) (by kernel_rfl) (fun _ _ _ h => h) (by rfl) (fun w hSw => ?_) (by assumption) ?_; rotate_left 1; focus (((try dsimp only at hSw); first | (go_simp; done) | (go_simp; with_reducible rfl)))
        try simp only [Act.put, List.setIfInBounds_toArray, List.set_cons_zero, List.set_cons_succ]
        refine held_take (i := 10) (v := ?_) rfl (by kernel_rfl) (by kernel_rfl) (by kernel_rfl) (fun _ _ _ h => h) (by rfl) (fun w hSw => ?_) (by assumption) ?_; rotate_left 1; focus (((try dsimp only at hSw); first | (go_simp; done) | (go_simp; with_reducible rfl)))
        try simp only [Act.put, List.setIfInBounds_toArray, List.set_cons_zero, List.set_cons_succ]
        refine held_take (i := 11) (v := ?_) rfl (by kernel_rfl) (by kernel_rfl) (by kernel_rfl) (fun _ _ _ h => h) (by rfl) (fun w hSw => ?_) (by assumption) ?_; rotate_left 1; focus (((try dsimp only at hSw); first | (go_simp; done) | (go_simp; with_reducible rfl)))
        try simp only [Act.put, List.setIfInBounds_toArray, List.set_cons_zero, List.set_cons_succ]
        refine wpAnyH_done (by kernel_rfl) ?_ _
        go_wp2_with fail
        go_returns
        refine SD.out _ _ ⟨QA, QC, b, 0 + (F + r) * 4, ?_, ?_, ?_⟩
        · rw [← hpl.out, ← hQN.out]; rfl
        · rw [← hpl.out, hQA.out, hQC.out]
          exact (CK.out u8 W9.out).2.2.2.from hFr
        · exact W4.out.trans (W9.out.mono W4.out.size)
  · have W3 := Lib.hid (below_of W0.out hw)
    have hno := Lib.hid hno
    clear hw
    go_wp2_with fail
    go_returns
    exact .inr ⟨hno.out, rfl, below_of W3.out (below_alloc _ _)⟩
end Go.Proofs.Ytnmlifagchdphaa
