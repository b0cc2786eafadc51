/-
  The contract of the document's own Decode: it answers what the plain mathematics reads. Condition: a text of at most 4096 bytes.
-/
import Derived.Test.YtpobfheioondaaaDoorKeysDecode
import Derived.Test.YtpobfheioondaaaDoorKeysCmp
import Derived.Test.YtpobfheioondaaaDoorCodeTextRef
import Derived.BigRegion
namespace Go.Proofs.YtpobfheioondaaaDoor
open Go.RowKit
/-- Behind a call the document's two blocks hold what they held: the result, and the key that was read. -/
theorem ref_kept {w w' : World} {a b k p u : Value} (hb : Below (((w.alloc (.cells #[.int .i64 0, .int .i64 0, .string noText, .string noText, .string noText] 23)).alloc (.cells #[a, b, k, p, u] 23)).drew).heap.size
    (((w.alloc (.cells #[.int .i64 0, .int .i64 0, .string noText, .string noText, .string noText] 23)).alloc (.cells #[a, b, k, p, u] 23)).drew) w') :
    (w'.cell? ⟨w.heap.size, 0, none⟩ = some (.int .i64 0) ∧ w'.cell? ⟨w.heap.size, 1, none⟩ = some (.int .i64 0) ∧ w'.cell? ⟨w.heap.size, 2, none⟩ = some (.string noText) ∧ w'.cell? ⟨w.heap.size, 3, none⟩ = some (.string noText) ∧ w'.cell? ⟨w.heap.size, 4, none⟩ = some (.string noText)) ∧
    (w'.cell? ⟨w.heap.size + 1, 0, none⟩ = some a ∧ w'.cell? ⟨w.heap.size + 1, 1, none⟩ = some b ∧ w'.cell? ⟨w.heap.size + 1, 2, none⟩ = some k ∧ w'.cell? ⟨w.heap.size + 1, 3, none⟩ = some p ∧ w'.cell? ⟨w.heap.size + 1, 4, none⟩ = some u) ∧
    (∀ i, w'.frozen? ⟨w.heap.size, i, none⟩ = false) ∧ Below w.heap.size w w' := by
  obtain ⟨o0, h0⟩ : ∃ o, o = Obj.cells #[.int .i64 0, .int .i64 0, .string noText, .string noText, .string noText] 23 := ⟨_, rfl⟩
  obtain ⟨o1, h1⟩ : ∃ o, o = Obj.cells #[a, b, k, p, u] 23 := ⟨_, rfl⟩
  rw [← h0, ← h1] at hb
  have z1 : (w.alloc o0).heap.size = w.heap.size + 1 := by simp
  have z2 : (((w.alloc o0).alloc o1).drew).heap.size = w.heap.size + 1 + 1 := by show ((w.alloc o0).alloc o1).heap.size = _; simp
  have c0 : ∀ i : Nat, w'.cell? ⟨w.heap.size, i, none⟩ = (#[.int .i64 0, .int .i64 0, .string noText, .string noText, .string noText] : Array Value)[i]? := fun i =>
    (hb.cell (p := ⟨w.heap.size, i, none⟩) (by rw [z2]; exact Nat.lt_succ_of_lt (Nat.lt_succ_self _))).trans ((World.cell?_alloc_lt _ _ _ (by rw [z1]; exact Nat.lt_succ_self _)).trans (by rw [h0]; exact World.cell?_alloc_new _ _ _ _))
  have c1 : ∀ i : Nat, w'.cell? ⟨w.heap.size + 1, i, none⟩ = (#[a, b, k, p, u] : Array Value)[i]? := fun i =>
    (hb.cell (p := ⟨w.heap.size + 1, i, none⟩) (by rw [z2]; exact Nat.lt_succ_self _)).trans (by rw [h1, ← z1]; exact World.cell?_alloc_new _ _ _ _)
  have f0 : ∀ i : Nat, w'.frozen? ⟨w.heap.size, i, none⟩ = false := fun i =>
    (hb.frozen (p := ⟨w.heap.size, i, none⟩) (by rw [z2]; exact Nat.lt_succ_of_lt (Nat.lt_succ_self _))).trans ((World.frozen?_alloc_old _ _ _ (Nat.ne_of_lt (by rw [z1]; exact Nat.lt_succ_self _))).trans (by rw [h0]; exact World.frozen?_alloc_new _ _ _ _))
  exact ⟨⟨c0 0, c0 1, c0 2, c0 3, c0 4⟩, ⟨c1 0, c1 1, c1 2, c1 3, c1 4⟩, f0, (((below_alloc w o0).alloc (by simp) o1).drew).trans (hb.mono (by rw [z2]; omega))⟩
theorem refdecode_short (s : ByteArray) (hs : (s.size : Int) < 2) (w : World) :
    Calls Tryd.prog 20 #[.string s] w fun e w' => e = .returned (.tuple #[keyVal 0 0 noText noText noText, .int .i64 7]) ∧ Below w.heap.size w w' := by
  go_enter Tryd.func20, Tryd.ntmps20
  go_wp2
  go_returns
  exact ⟨rfl, below_alloc _ _⟩
/-- What the document's Decode meets on its way. -/
structure RefWay (s : ByteArray) (A B : Int) (T T1 T2 : ByteArray) (n1 E1 : Nat) : Prop where
  sz : 2 ≤ (s.size : Int)
  i0 : ∀ u, (Instr.index 9 (.string s) (.int .i64 0)).run Tryd.prog u = .ok (.int .u8 A) u
  i1 : ∀ u, (Instr.index 9 (.string s) (.int .i64 1)).run Tryd.prog u = .ok (.int .u8 B) u
  wa : wrap64 A = A
  wb : wrap64 B = B
  cut : ∀ u, (Instr.slice 9 (.string s) (some (.int .i64 2)) none none).run Tryd.prog u = .ok (.string T) u
  text : ∀ v, Calls Tryd.prog 35 #[.string T] v fun e v' => e = .returned (.tuple #[.string T1, .int .i64 (n1 : Int), .int .i64 (E1 : Int)]) ∧ v' = v
  le : (n1 : Int) ≤ 4096
  rest : ∀ u, (Instr.slice 9 (.string s) (some (.int .i64 (2 + (n1 : Int)))) none none).run Tryd.prog u = .ok (.string T2) u
set_option maxHeartbeats 4000000 in
theorem refdecode_bad1 (s : ByteArray) (A B : Int) (T T1 T2 : ByteArray) (n1 E1 : Nat) (h : RefWay s A B T T1 T2 n1 E1) (hE : ((E1 : Int) != 0) = true) (w : World) :
    Calls Tryd.prog 20 #[.string s] w fun e w' => e = .returned (.tuple #[keyVal 0 0 noText noText noText, .int .i64 7]) ∧ Below w.heap.size w w' := by
  obtain ⟨sz, i0, i1, wa, wb, f3, c1, _, _⟩ := h
  have C1 := Lib.hid c1
  clear c1
  go_enter Tryd.func20, Tryd.ntmps20
  go_wp2_with (go_at_call 35; ((with_reducible refine (C1.out _).mono ?_); rintro e w1 ⟨rfl, rfl⟩))
  go_returns
  exact ⟨rfl, below_alloc _ _⟩
set_option maxHeartbeats 4000000 in
theorem refdecode_bad2 (s : ByteArray) (A B : Int) (T T1 T2 T3 : ByteArray) (n1 n2 E2 : Nat) (h : RefWay s A B T T1 T2 n1 0)
    (h2 : ∀ v, Calls Tryd.prog 35 #[.string T2] v fun e v' => e = .returned (.tuple #[.string T3, .int .i64 (n2 : Int), .int .i64 (E2 : Int)]) ∧ v' = v) (hE : ((E2 : Int) != 0) = true) (w : World) :
    Calls Tryd.prog 20 #[.string s] w fun e w' => e = .returned (.tuple #[keyVal 0 0 noText noText noText, .int .i64 7]) ∧ Below w.heap.size w w' := by
  obtain ⟨sz, i0, i1, wa, wb, f3, c1, le, f4⟩ := h
  have C1 := Lib.hid c1
  have C2 := Lib.hid h2
  clear c1 h2
  go_enter Tryd.func20, Tryd.ntmps20
  go_wp2_with (first
    | (go_at_call 35; ((with_reducible refine (C1.out _).mono ?_); rintro e w1 ⟨rfl, rfl⟩))
    | (go_at_call 35; ((with_reducible refine (C2.out _).mono ?_); rintro e w2 ⟨rfl, rfl⟩)))
  go_returns
  exact ⟨rfl, below_alloc _ _⟩
set_option maxHeartbeats 8000000 in
theorem refdecode_bad3 (s : ByteArray) (A B : Int) (T T1 T2 T3 T4 : ByteArray) (n1 n2 E3 : Nat) (h : RefWay s A B T T1 T2 n1 0)
    (h2 : ∀ v, Calls Tryd.prog 35 #[.string T2] v fun e v' => e = .returned (.tuple #[.string T3, .int .i64 (n2 : Int), .int .i64 0]) ∧ v' = v) (le2 : (n2 : Int) ≤ 4096)
    (h3 : ∀ u, (Instr.slice 9 (.string s) (some (.int .i64 (2 + (n1 : Int) + (n2 : Int)))) none none).run Tryd.prog u = .ok (.string T4) u)
    (h4 : ∀ v, Calls Tryd.prog 17 #[keyVal A B T1 T3 T4] v fun e v' => e = .returned (.int .i64 (E3 : Int)) ∧ Below v.heap.size v v') (hE : ((E3 : Int) != 0) = true) (w : World) :
    Calls Tryd.prog 20 #[.string s] w fun e w' => e = .returned (.tuple #[keyVal 0 0 noText noText noText, .int .i64 7]) ∧ Below w.heap.size w w' := by
  obtain ⟨sz, i0, i1, wa, wb, f3, c1, le, f4⟩ := h
  have C1 := Lib.hid c1
  have C2 := Lib.hid h2
  have C4 := Lib.hid h4
  clear c1 h2 h4
  go_enter Tryd.func20, Tryd.ntmps20
  go_wp2_with (first
    | (go_at_call 35; ((with_reducible refine (C1.out _).mono ?_); rintro e w1 ⟨rfl, rfl⟩))
    | (go_at_call 35; ((with_reducible refine (C2.out _).mono ?_); rintro e w2 ⟨rfl, rfl⟩)))
  go_region
  go_wp2_with (go_at_call 17; ((with_reducible refine (C4.out _).mono ?_); rintro e w4 ⟨rfl, hb⟩; obtain ⟨⟨r0, r1, r2, r3, r4⟩, ⟨k0, k1, k2, k3, k4⟩, fr, hB⟩ := ref_kept hb))
  obtain ⟨g0, g1, g2, g3, g4⟩ := res_cells w4 w.heap.size r0 r1 r2 r3 r4 (.int .i64 0) (.int .i64 0) (.string noText) (.string noText) (.string noText)
  refine bodyPost_ret (v := .tuple #[keyVal 0 0 noText noText noText, .int .i64 7]) (by simp [results, Tryd.results20, go_sem, g0, g1, g2, g3, g4]) rfl ⟨rfl, below_res hB _ _ _ _ _⟩
set_option maxHeartbeats 8000000 in
theorem refdecode_ok (s : ByteArray) (A B : Int) (T T1 T2 T3 T4 : ByteArray) (n1 n2 : Nat) (h : RefWay s A B T T1 T2 n1 0)
    (h2 : ∀ v, Calls Tryd.prog 35 #[.string T2] v fun e v' => e = .returned (.tuple #[.string T3, .int .i64 (n2 : Int), .int .i64 0]) ∧ v' = v) (le2 : (n2 : Int) ≤ 4096)
    (h3 : ∀ u, (Instr.slice 9 (.string s) (some (.int .i64 (2 + (n1 : Int) + (n2 : Int)))) none none).run Tryd.prog u = .ok (.string T4) u)
    (h4 : ∀ v, Calls Tryd.prog 17 #[keyVal A B T1 T3 T4] v fun e v' => e = .returned (.int .i64 0) ∧ Below v.heap.size v v') (w : World) :
    Calls Tryd.prog 20 #[.string s] w fun e w' => e = .returned (.tuple #[keyVal A B T1 T3 T4, .int .i64 0]) ∧ Below w.heap.size w w' := by
  obtain ⟨sz, i0, i1, wa, wb, f3, c1, le, f4⟩ := h
  have C1 := Lib.hid c1
  have C2 := Lib.hid h2
  have C4 := Lib.hid h4
  clear c1 h2 h4
  go_enter Tryd.func20, Tryd.ntmps20
  go_wp2_with (first
    | (go_at_call 35; ((with_reducible refine (C1.out _).mono ?_); rintro e w1 ⟨rfl, rfl⟩))
    | (go_at_call 35; ((with_reducible refine (C2.out _).mono ?_); rintro e w2 ⟨rfl, rfl⟩)))
  go_region
  go_wp2_with (go_at_call 17; ((with_reducible refine (C4.out _).mono ?_); rintro e w4 ⟨rfl, hb⟩; obtain ⟨⟨r0, r1, r2, r3, r4⟩, ⟨k0, k1, k2, k3, k4⟩, fr, hB⟩ := ref_kept hb))
  obtain ⟨g0, g1, g2, g3, g4⟩ := res_cells w4 w.heap.size r0 r1 r2 r3 r4 (.int .i64 A) (.int .i64 B) (.string T1) (.string T3) (.string T4)
  refine bodyPost_ret (v := .tuple #[keyVal A B T1 T3 T4, .int .i64 0]) (by simp [results, Tryd.results20, go_sem, g0, g1, g2, g3, g4]) rfl ⟨rfl, below_res hB _ _ _ _ _⟩
/-- Whatever the text, the document's Decode answers what the plain mathematics reads of it. -/
theorem refdecode_any (s : ByteArray) (hs : s.size ≤ 4096) (w : World) :
    Calls Tryd.prog 20 #[.string s] w fun e w' => e = .returned (.tuple #[keyVal (Keys.dec s.data.toList).1.st (Keys.dec s.data.toList).1.gr ⟨(Keys.dec s.data.toList).1.key.toArray⟩ ⟨(Keys.dec s.data.toList).1.space.toArray⟩ ⟨(Keys.dec s.data.toList).1.sub.toArray⟩, .int .i64 ((Keys.dec s.data.toList).2 : Int)]) ∧ Below w.heap.size w w' := by
  have hl := size_len s
  by_cases h2 : s.size < 2
  · have e : Keys.dec s.data.toList = (Keys.none5, 7) := by
      rcases hq : s.data.toList with _ | ⟨a, _ | ⟨b, t⟩⟩
      · rfl
      · rfl
      · rw [hq] at hl; simp at hl; omega
    rw [e]
    exact refdecode_short s (by omega) w
  obtain ⟨a, b, t, hq⟩ : ∃ a b t, s.data.toList = a :: b :: t := by
    rcases hq : s.data.toList with _ | ⟨a, _ | ⟨b, t⟩⟩
    · rw [hq] at hl; simp at hl; omega
    · rw [hq] at hl; simp at hl; omega
    · exact ⟨a, b, t, rfl⟩
  have hlt : t.length + 2 = s.size := by rw [hq] at hl; simpa using hl
  have ht : t.length ≤ 4094 := by omega
  have hn1 := untxt_size t
  have cutAt : ∀ n : Nat, n ≤ t.length → ∀ u, (Instr.slice 9 (.string s) (some (.int .i64 (2 + (n : Int)))) none none).run Tryd.prog u = .ok (.string ⟨(t.drop n).toArray⟩) u := fun n hn u => by
    have := slice_from s (2 + n) (by omega) u
    rw [hq] at this
    have e : ((2 + n : Nat) : Int) = 2 + (n : Int) := by omega
    have e2 : (a :: b :: t).drop (2 + n) = t.drop n := by rw [Nat.add_comm 2 n]; rfl
    rw [e, e2] at this
    exact this
  have hw : RefWay s (a.toNat : Int) (b.toNat : Int) ⟨t.toArray⟩ ⟨(Code.untxt t).1.toArray⟩ ⟨(t.drop (Code.untxt t).2.1).toArray⟩ (Code.untxt t).2.1 (Code.untxt t).2.2 :=
    ⟨by omega, index_at s 0 a (by rw [hq]; rfl), index_at s 1 b (by rw [hq]; rfl), byte_64 a, byte_64 b,
      fun u => by have := slice_from s 2 (by omega) u; rw [hq] at this; exact this,
      fun v => reftext_any ⟨t.toArray⟩ (by rw [list_size]; unfold reachBytes; omega) v, by omega, cutAt _ hn1⟩
  rw [hq, dec_cons]
  by_cases e1 : (Code.untxt t).2.2 = 0
  · rw [if_neg (by simpa using e1)]
    rw [e1] at hw
    obtain ⟨t2, h2'⟩ : ∃ t2, t2 = t.drop (Code.untxt t).2.1 := ⟨_, rfl⟩
    have hl2 : t2.length = t.length - (Code.untxt t).2.1 := by rw [h2', List.length_drop]
    have hn2 := untxt_size t2
    have c3 := cutAt ((Code.untxt t).2.1 + (Code.untxt t2).2.1) (by omega)
    have e4 : t.drop ((Code.untxt t).2.1 + (Code.untxt t2).2.1) = t2.drop (Code.untxt t2).2.1 := by rw [h2', List.drop_drop]
    have e5 : (2 + (((Code.untxt t).2.1 + (Code.untxt t2).2.1 : Nat) : Int)) = 2 + ((Code.untxt t).2.1 : Int) + ((Code.untxt t2).2.1 : Int) := by omega
    rw [e4, e5] at c3
    rw [← h2'] at hw ⊢
    have c2 := fun v => reftext_any ⟨t2.toArray⟩ (by rw [list_size]; unfold reachBytes; omega) v
    by_cases e2 : (Code.untxt t2).2.2 = 0
    · rw [if_neg (by simpa using e2)]
      have c2' : ∀ v, Calls Tryd.prog 35 #[.string ⟨t2.toArray⟩] v fun e v' => e = .returned (.tuple #[.string ⟨(Code.untxt t2).1.toArray⟩, .int .i64 ((Code.untxt t2).2.1 : Int), .int .i64 0]) ∧ v' = v := fun v => by
        have := c2 v
        have h0 : (Code.untxt (⟨t2.toArray⟩ : ByteArray).data.toList).2.2 = 0 := e2
        rw [h0] at this; exact this
      have c4 := fun v => refcheck_any (a.toNat : Int) (b.toNat : Int) ⟨(Code.untxt t).1.toArray⟩ ⟨(Code.untxt t2).1.toArray⟩ ⟨(t2.drop (Code.untxt t2).2.1).toArray⟩ v
      by_cases e3 : Keys.check ⟨(a.toNat : Int), (b.toNat : Int), (Code.untxt t).1, (Code.untxt t2).1, t2.drop (Code.untxt t2).2.1⟩ = 0
      · rw [if_neg (by simpa using e3)]
        exact refdecode_ok s _ _ _ _ _ _ _ _ _ hw c2' (by omega) c3 (fun v => by
          have := c4 v
          have h0 : Keys.check (skOf (a.toNat : Int) (b.toNat : Int) ⟨(Code.untxt t).1.toArray⟩ ⟨(Code.untxt t2).1.toArray⟩ ⟨(t2.drop (Code.untxt t2).2.1).toArray⟩) = 0 := e3
          rw [h0] at this; exact this) w
      · rw [if_pos e3]
        exact refdecode_bad3 s _ _ _ _ _ _ _ _ _ _ hw c2' (by omega) c3 c4 (bne_iff_ne.2 (fun h => e3 (by exact_mod_cast h))) w
    · rw [if_pos e2]
      exact refdecode_bad2 s _ _ _ _ _ _ _ _ _ hw c2 (bne_iff_ne.2 (fun h => e2 (by exact_mod_cast h))) w
  · rw [if_pos e1]
    exact refdecode_bad1 s _ _ _ _ _ _ _ hw (bne_iff_ne.2 (fun h => e1 (by exact_mod_cast h))) w
end Go.Proofs.YtpobfheioondaaaDoor
