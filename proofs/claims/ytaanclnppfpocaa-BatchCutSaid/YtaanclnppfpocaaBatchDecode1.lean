/-
  What Decode calls: decodeHead, kindOf, decodePut, decodeDelete, decodeNone. Condition: a text within reach.
-/
import Derived.Test.YtaanclnppfpocaaBatchMath2
import Derived.Test.YtaanclnppfpocaaBut
import Derived.Test.YtaanclnppfpocaaCodeUint
import Derived.Test.YtaanclnppfpocaaCodeField
import Derived.Handy
import Derived.Laws.EntriesVeiled
import Derived.Deep.QuietTactic
import Derived.BigQuiet
import Derived.Deep.Cut
import Derived.Deep.DeepCutAuto
namespace Go.Proofs.Ytaanclnppfpocaa
open Go.RowKit
theorem drop_list (s : ByteArray) (k : Nat) : (s.extract k s.size).data.toList = s.data.toList.drop k := by
  rw [ByteArray.data_extract, Array.toList_extract, List.extract_eq_take_drop, List.take_of_length_le (by rw [List.length_drop, size_list]; omega)]
theorem drop_size (s : ByteArray) (k : Nat) : (s.extract k s.size).size = s.size - k := by
  rw [← size_list, drop_list, List.length_drop, size_list]
/-- What the head tells: a number, how many writes, the rest. -/
def headBad (l : List UInt8) : Prop := (Code.rd 0 l).2.2 ≠ 0 ∨ (Code.rd 0 (l.drop (Code.rd 0 l).2.1)).2.2 ≠ 0 ∨ 64 < (Code.rd 0 (l.drop (Code.rd 0 l).2.1)).1
set_option maxRecDepth 100000 in
set_option maxHeartbeats 2000000 in
theorem head_any (s : ByteArray) (hs : s.size ≤ maxLen) (w : World) :
    Calls Try.prog 32 #[.string s] w fun e w' =>
      ((headBad s.data.toList ∧ ∃ x : Int, x ≠ 0 ∧ e = .returned (.tuple #[.int .u64 0, .int .u64 0, .string ⟨#[]⟩, .int .i64 x])) ∨
       (¬ headBad s.data.toList ∧ ∃ t : ByteArray, t.data.toList = restB s.data.toList ∧ t.size ≤ s.size ∧ e = .returned (.tuple #[.int .u64 ((Code.rd 0 s.data.toList).1 : Int), .int .u64 ((Code.rd 0 (s.data.toList.drop (Code.rd 0 s.data.toList).2.1)).1 : Int), .string t, .int .i64 0]))) ∧ Below w.heap.size w w' := by
  have U1 := Lib.hid (uint_any s hs w)
  have z1 := Code.rd_size s.data.toList
  rw [size_list] at z1
  obtain ⟨r1, h1⟩ := named (Code.rd 0 s.data.toList)
  obtain ⟨A, n1, e1⟩ := r1
  have hA : (Code.rd 0 s.data.toList).1 = A := by rw [← h1.out]
  have hn1 : (Code.rd 0 s.data.toList).2.1 = n1 := by rw [← h1.out]
  have he1 : (Code.rd 0 s.data.toList).2.2 = e1 := by rw [← h1.out]
  unfold headBad restB
  rw [hA, hn1, he1] at U1
  rw [hn1] at z1
  rw [hA, hn1, he1]
  have U2 := Lib.hid fun u => uint_any (s.extract n1 s.size) (by rw [drop_size]; omega) u
  have z2 := Code.rd_size (s.extract n1 s.size).data.toList
  rw [size_list, drop_size] at z2
  rw [drop_list] at U2 z2
  obtain ⟨r2, h2⟩ := named (Code.rd 0 (s.data.toList.drop n1))
  obtain ⟨M, n2, e2⟩ := r2
  have hM : (Code.rd 0 (s.data.toList.drop n1)).1 = M := by rw [← h2.out]
  have hn2 : (Code.rd 0 (s.data.toList.drop n1)).2.1 = n2 := by rw [← h2.out]
  have he2 : (Code.rd 0 (s.data.toList.drop n1)).2.2 = e2 := by rw [← h2.out]
  rw [hM, hn2, he2] at U2
  rw [hn2] at z2
  rw [hM, hn2, he2]
  clear hA hn1 he1 hM hn2 he2 h1 h2
  have hd1 : ((s.size : Nat) : Int) < (n1 : Int) ↔ False := ⟨fun h => by omega, False.elim⟩
  have hmx : s.size ≤ 9223372036854775807 := hs
  by_cases q1 : e1 = 0
  · subst q1
    by_cases q2 : e2 = 0
    · subst q2
      by_cases q3 : 64 < M
      · have d3 : decide ((64 : Int) < (M : Int)) = true := by rw [decide_eq_true_eq]; omega
        go_enter Try.func32, Try.ntmps32
        go_wp2_with fail
        refine U1.out.mono ?_
        rintro e w1 ⟨rfl, b1⟩
        go_wp2_with fail
        refine (U2.out _).mono ?_
        rintro e w2 ⟨rfl, b2⟩
        go_wp2_with fail
        go_returns
        exact ⟨.inl ⟨.inr (.inr q3), 3, by decide, rfl⟩, b1.trans (b2.mono b1.size)⟩
      · have d3 : decide ((64 : Int) < (M : Int)) = false := by rw [decide_eq_false_iff_not]; omega
        have hM' : M ≤ 64 := by omega
        go_enter Try.func32, Try.ntmps32
        go_wp2_with fail
        refine U1.out.mono ?_
        rintro e w1 ⟨rfl, b1⟩
        go_wp2_with fail
        refine (U2.out _).mono ?_
        rintro e w2 ⟨rfl, b2⟩
        have b2 := Lib.hid (b1.trans (b2.mono b1.size))
        have wa : wrap64 ((n1 : Int) + (n2 : Int)) = ((n1 + n2 : Nat) : Int) := by unfold wrap64; omega
        go_upto_region 9 with fail
        go_quiet (fail)
        go_wp2_with fail
        go_returns
        exact ⟨.inr ⟨by omega, s.extract (n1 + n2) s.size, by rw [drop_list, List.drop_drop], by rw [drop_size]; omega, rfl⟩, below_drewN b2.out⟩
    · have q2' : (((e2 : Nat) : Int) != 0) = true := by simp; omega
      go_enter Try.func32, Try.ntmps32
      go_wp2_with fail
      refine U1.out.mono ?_
      rintro e w1 ⟨rfl, b1⟩
      go_wp2_with fail
      refine (U2.out _).mono ?_
      rintro e w2 ⟨rfl, b2⟩
      go_wp2_with fail
      go_returns
      exact ⟨.inl ⟨.inr (.inl q2), (e2 : Int), by omega, rfl⟩, b1.trans (b2.mono b1.size)⟩
  · have q1' : (((e1 : Nat) : Int) != 0) = true := by simp; omega
    go_enter Try.func32, Try.ntmps32
    go_wp2_with fail
    refine U1.out.mono ?_
    rintro e w1 ⟨rfl, b1⟩
    go_wp2_with fail
    go_returns
    exact ⟨.inl ⟨.inl q1, (e1 : Int), by omega, rfl⟩, b1⟩
/-- Which function decodes the writes of a kind. -/
def kindF (k : UInt8) : FuncId := if k = 1 then 41 else if k = 2 then 42 else 40
set_option maxRecDepth 100000 in
set_option maxHeartbeats 2000000 in
theorem kind_any (k : UInt8) (w : World) :
    Calls Try.prog 33 #[.int .u8 (k.toNat : Int)] w fun e w' => e = .returned (.agg #[.func (.func (kindF k)) #[] #[]]) ∧ Below w.heap.size w w' := by
  have hk : k = 1 ∨ k = 2 ∨ k = 0 ∨ 3 ≤ k.toNat := by
    have q : k.toNat = 1 ∨ k.toNat = 2 ∨ k.toNat = 0 ∨ 3 ≤ k.toNat := by omega
    rcases q with q | q | q | q
    · exact .inl (UInt8.toNat_inj.1 q)
    · exact .inr (.inl (UInt8.toNat_inj.1 q))
    · exact .inr (.inr (.inl (UInt8.toNat_inj.1 q)))
    · exact .inr (.inr (.inr q))
  have fin : ∀ (x y z u : Value) (s t : TypeId), Below w.heap.size w ((w.alloc (.cells #[u] s)).alloc (.cells #[x, y, z] t)) := fun x y z u s t => (below_alloc _ _).alloc (by simp) _
  rcases hk with rfl | rfl | rfl | h3
  · go_enter Try.func33, Try.ntmps33
    go_wp2
    go_returns
    exact ⟨rfl, fin _ _ _ _ _ _⟩
  · go_enter Try.func33, Try.ntmps33
    go_wp2
    go_returns
    exact ⟨rfl, fin _ _ _ _ _ _⟩
  · go_enter Try.func33, Try.ntmps33
    go_wp2
    go_returns
    exact ⟨rfl, fin _ _ _ _ _ _⟩
  · have hf : kindF k = 40 := by
      unfold kindF
      rw [if_neg (fun e => by subst e; exact absurd h3 (by decide)), if_neg (fun e => by subst e; exact absurd h3 (by decide))]
    have d3 : decide ((3 : Int) ≤ (k.toNat : Int)) = true := by rw [decide_eq_true_eq]; omega
    have wk : wrap64 (k.toNat : Int) = (k.toNat : Int) := by have := UInt8.toNat_lt k; unfold wrap64; omega
    rw [hf]
    go_enter Try.func33, Try.ntmps33
    go_wp2
    go_returns
    exact ⟨rfl, fin _ _ _ _ _ _⟩
/-- What decoding a write of the kind k gives. -/
def Decoded (k : UInt8) (s : ByteArray) (w : World) (e : Ending) (w' : World) : Prop :=
  ((decW (k :: s.data.toList) = none ∧ ∃ x : Int, x ≠ 0 ∧ e = .returned (.tuple #[.agg #[.int .i64 0, .string ⟨#[]⟩, .string ⟨#[]⟩], .int .i64 0, .int .i64 x])) ∨
    ∃ y n, decW (k :: s.data.toList) = some (y, 1 + n) ∧ n ≤ s.size ∧ e = .returned (.tuple #[.agg #[.int .i64 y.kind, .string y.key, .string y.val], .int .i64 (n : Int), .int .i64 0])) ∧ Below w.heap.size w w'
set_option maxRecDepth 100000 in
set_option maxHeartbeats 2000000 in
theorem decodeNone_any (k : UInt8) (h1 : k ≠ 1) (h2 : k ≠ 2) (s : ByteArray) (w : World) : Calls Try.prog 40 #[.string s] w (Decoded k s w) := by
  have hd : Hid (decW (k :: s.data.toList) = none) := Lib.hid (by simp only [decW]; rw [if_neg h1, if_neg h2])
  go_enter Try.func40, Try.ntmps40
  go_wp2
  go_returns
  exact ⟨.inl ⟨hd.out, 7, by decide, rfl⟩, below_alloc _ _⟩
theorem field_size (l : List UInt8) (x : Int) : (Code.rdField l x).2.1 ≤ l.length := by
  rcases Code.rdField_err l x with h | ⟨_, _, h⟩
  · exact (Code.put_field l x h).2.1
  · omega
/-- A result of three cells that was stored. -/
theorem res3 {v : World} {N : Nat} {y0 y1 y2 : Value} {T : TypeId} (h : v.heap[N]? = some (.cells #[y0, y1, y2] T (0, 0))) (x0 x1 x2 : Value) :
    (((v.setCell ⟨N, 0, none⟩ x0).setCell ⟨N, 1, none⟩ x1).setCell ⟨N, 2, none⟩ x2).heap[N]? = some (.cells #[x0, x1, x2] T (0, 0)) :=
  (heap_setCell_same _ _ _ _ _ _ ((heap_setCell_same _ _ _ _ _ _ ((heap_setCell_same _ _ _ _ _ _ h).trans rfl)).trans rfl)).trans rfl
theorem below3c {w v : World} {N : Nat} (h : Below w.heap.size w v) (hN : w.heap.size ≤ N) (x0 x1 x2 : Value) : Below w.heap.size w (((v.setCell ⟨N, 0, none⟩ x0).setCell ⟨N, 1, none⟩ x1).setCell ⟨N, 2, none⟩ x2) :=
  ((h.setCell (p := ⟨N, 0, none⟩) hN _).setCell (p := ⟨N, 1, none⟩) hN _).setCell (p := ⟨N, 2, none⟩) hN _
theorem cell3 {v : World} {N : Nat} {x0 x1 x2 : Value} {T : TypeId} (h : v.heap[N]? = some (.cells #[x0, x1, x2] T (0, 0))) : v.cell? ⟨N, 0, none⟩ = some x0 ∧ v.cell? ⟨N, 1, none⟩ = some x1 ∧ v.cell? ⟨N, 2, none⟩ = some x2 ∧ ∀ j, v.frozen? ⟨N, j, none⟩ = false := by
  refine ⟨by simp [World.cell?, h], by simp [World.cell?, h], by simp [World.cell?, h], fun j => by simp [World.frozen?, h]⟩
abbrev wrV (k : Int) (a b : ByteArray) : Value := .agg #[.int .i64 k, .string a, .string b]
set_option maxRecDepth 100000 in
set_option maxHeartbeats 2000000 in
theorem decodeDelete_any (s : ByteArray) (hs : s.size ≤ reachBytes) (w : World) : Calls Try.prog 42 #[.string s] w (Decoded 2 s w) := by
  have F1 := Lib.hid fun u => field_any s hs 520 (by decide) u
  have z1 := field_size s.data.toList 520
  rw [size_list] at z1
  have hd : decW (2 :: s.data.toList) = if (Code.rdField s.data.toList 520).2.2 ≠ 0 then none else some (⟨2, ⟨(Code.rdField s.data.toList 520).1.toArray⟩, ⟨#[]⟩⟩, 1 + (Code.rdField s.data.toList 520).2.1) := by
    simp only [decW]
    rw [if_neg (show ¬ (2 : UInt8) = 1 by decide), if_pos trivial]
  obtain ⟨r1, h1⟩ := named (Code.rdField s.data.toList 520)
  obtain ⟨t1, n1, e1⟩ := r1
  have ht : (Code.rdField s.data.toList 520).1 = t1 := by rw [← h1.out]
  have hn : (Code.rdField s.data.toList 520).2.1 = n1 := by rw [← h1.out]
  have he : (Code.rdField s.data.toList 520).2.2 = e1 := by rw [← h1.out]
  rw [ht, hn, he] at F1 hd
  rw [hn] at z1
  clear ht hn he h1
  have D : Hid (∀ e w', (((decW (2 :: s.data.toList) = none ∧ ∃ x : Int, x ≠ 0 ∧ e = .returned (.tuple #[.agg #[.int .i64 0, .string ⟨#[]⟩, .string ⟨#[]⟩], .int .i64 0, .int .i64 x])) ∨ ∃ y n, decW (2 :: s.data.toList) = some (y, 1 + n) ∧ n ≤ s.size ∧ e = .returned (.tuple #[.agg #[.int .i64 y.kind, .string y.key, .string y.val], .int .i64 (n : Int), .int .i64 0])) ∧ Below w.heap.size w w') → Decoded 2 s w e w') := Lib.hid fun _ _ h => h
  have hd := Lib.hid hd
  by_cases q1 : e1 = 0
  · subst q1
    go_enter Try.func42, Try.ntmps42
    go_wp2_with fail
    refine (F1.out _).mono ?_
    rintro e w1 ⟨rfl, b1⟩
    have g0 : w1.heap[w.heap.size]? = some (.cells #[.int .i64 0, .string .empty, .string .empty] 44 (0, 0)) := (b1.block w.heap.size (by simp)).trans (heap_alloc_new _ _)
    obtain ⟨c0, c1, c2, cf⟩ := cell3 g0
    have f0 := cf 0
    have f1 := cf 1
    have f2 := cf 2
    have hN : w.heap.size < w1.heap.size := by have := b1.size; simp at this; omega
    have K : Hid (∀ x0 x1 x2, (((w1.setCell ⟨w.heap.size, 0, none⟩ x0).setCell ⟨w.heap.size, 1, none⟩ x1).setCell ⟨w.heap.size, 2, none⟩ x2).heap[w.heap.size]? = some (.cells #[x0, x1, x2] 44 (0, 0)) ∧ Below w.heap.size w (((w1.setCell ⟨w.heap.size, 0, none⟩ x0).setCell ⟨w.heap.size, 1, none⟩ x1).setCell ⟨w.heap.size, 2, none⟩ x2)) := Lib.hid fun x0 x1 x2 => ⟨res3 g0 _ _ _, below3c ((below_alloc _ _).trans (b1.mono (by simp))) (Nat.le_refl _) _ _ _⟩
    clear b1 cf g0 F1
    go_wp2_with fail
    obtain ⟨kk, kb⟩ := K.out (.int .i64 2) (.string ⟨t1.toArray⟩) (.string ⟨#[]⟩)
    generalize ((w1.setCell ⟨w.heap.size, 0, none⟩ (.int .i64 2)).setCell ⟨w.heap.size, 1, none⟩ (.string ⟨t1.toArray⟩)).setCell ⟨w.heap.size, 2, none⟩ (.string ⟨#[]⟩) = V at *
    obtain ⟨a0, a1, a2, _⟩ := cell3 kk
    refine bodyPost_ret (v := .tuple #[wrV 2 ⟨t1.toArray⟩ ⟨#[]⟩, .int .i64 (n1 : Int), .int .i64 0]) (by simp [results, Try.results42, go_sem, a0, a1, a2]) rfl ⟨.inr ⟨⟨2, ⟨t1.toArray⟩, ⟨#[]⟩⟩, n1, hd.out.trans (if_neg (by simp)), z1, rfl⟩, kb⟩
  · have q1' : (((e1 : Nat) : Int) != 0) = true := by simp; omega
    go_enter Try.func42, Try.ntmps42
    go_wp2_with fail
    refine (F1.out _).mono ?_
    rintro e w1 ⟨rfl, b1⟩
    have g0 : w1.heap[w.heap.size]? = some (.cells #[.int .i64 0, .string .empty, .string .empty] 44 (0, 0)) := (b1.block w.heap.size (by simp)).trans (heap_alloc_new _ _)
    obtain ⟨c0, c1, c2, cf⟩ := cell3 g0
    have f0 := cf 0
    have f1 := cf 1
    have f2 := cf 2
    have hN : w.heap.size < w1.heap.size := by have := b1.size; simp at this; omega
    have K : Hid (∀ x0 x1 x2, (((w1.setCell ⟨w.heap.size, 0, none⟩ x0).setCell ⟨w.heap.size, 1, none⟩ x1).setCell ⟨w.heap.size, 2, none⟩ x2).heap[w.heap.size]? = some (.cells #[x0, x1, x2] 44 (0, 0)) ∧ Below w.heap.size w (((w1.setCell ⟨w.heap.size, 0, none⟩ x0).setCell ⟨w.heap.size, 1, none⟩ x1).setCell ⟨w.heap.size, 2, none⟩ x2)) := Lib.hid fun x0 x1 x2 => ⟨res3 g0 _ _ _, below3c ((below_alloc _ _).trans (b1.mono (by simp))) (Nat.le_refl _) _ _ _⟩
    clear b1 cf g0 F1
    go_wp2_with fail
    obtain ⟨kk, kb⟩ := K.out (.int .i64 0) (.string ⟨#[]⟩) (.string ⟨#[]⟩)
    generalize ((w1.setCell ⟨w.heap.size, 0, none⟩ (.int .i64 0)).setCell ⟨w.heap.size, 1, none⟩ (.string ⟨#[]⟩)).setCell ⟨w.heap.size, 2, none⟩ (.string ⟨#[]⟩) = V at *
    obtain ⟨a0, a1, a2, _⟩ := cell3 kk
    refine bodyPost_ret (v := .tuple #[wrV 0 ⟨#[]⟩ ⟨#[]⟩, .int .i64 0, .int .i64 (e1 : Int)]) (by simp [results, Try.results42, go_sem, a0, a1, a2]) rfl ⟨.inl ⟨hd.out.trans (if_pos q1), (e1 : Int), by omega, rfl⟩, kb⟩
set_option maxRecDepth 100000 in
set_option maxHeartbeats 2000000 in
theorem decodePut_any (s : ByteArray) (hs : s.size ≤ reachBytes) (w : World) : Calls Try.prog 41 #[.string s] w (Decoded 1 s w) := by
  have F1 := Lib.hid fun u => field_any s hs 520 (by decide) u
  have z1 := field_size s.data.toList 520
  rw [size_list] at z1
  have hd : decW (1 :: s.data.toList) = if (Code.rdField s.data.toList 520).2.2 ≠ 0 then none
      else if (Code.rdField (s.data.toList.drop (Code.rdField s.data.toList 520).2.1) 2048).2.2 ≠ 0 then none
      else some (⟨1, ⟨(Code.rdField s.data.toList 520).1.toArray⟩, ⟨(Code.rdField (s.data.toList.drop (Code.rdField s.data.toList 520).2.1) 2048).1.toArray⟩⟩, 1 + ((Code.rdField s.data.toList 520).2.1 + (Code.rdField (s.data.toList.drop (Code.rdField s.data.toList 520).2.1) 2048).2.1)) := by
    simp only [decW]
    rw [if_pos trivial]
  obtain ⟨r1, h1⟩ := named (Code.rdField s.data.toList 520)
  obtain ⟨t1, n1, e1⟩ := r1
  have ht : (Code.rdField s.data.toList 520).1 = t1 := by rw [← h1.out]
  have hn : (Code.rdField s.data.toList 520).2.1 = n1 := by rw [← h1.out]
  have he : (Code.rdField s.data.toList 520).2.2 = e1 := by rw [← h1.out]
  rw [ht, hn, he] at F1 hd
  rw [hn] at z1
  clear ht hn he h1
  have F2 := Lib.hid fun u => field_any (s.extract n1 s.size) (by rw [drop_size]; omega) 2048 (by decide) u
  have z2 := field_size (s.extract n1 s.size).data.toList 2048
  rw [size_list, drop_size] at z2
  rw [drop_list] at F2 z2
  obtain ⟨r2, h2⟩ := named (Code.rdField (s.data.toList.drop n1) 2048)
  obtain ⟨t2, n2, e2⟩ := r2
  have ht : (Code.rdField (s.data.toList.drop n1) 2048).1 = t2 := by rw [← h2.out]
  have hn : (Code.rdField (s.data.toList.drop n1) 2048).2.1 = n2 := by rw [← h2.out]
  have he : (Code.rdField (s.data.toList.drop n1) 2048).2.2 = e2 := by rw [← h2.out]
  rw [ht, hn, he] at F2 hd
  rw [hn] at z2
  clear ht hn he h2
  have hd := Lib.hid hd
  have hmx : s.size ≤ 9223372036854775807 := by unfold reachBytes at hs; omega
  have wa : wrap64 ((n1 : Int) + (n2 : Int)) = ((n1 + n2 : Nat) : Int) := by unfold wrap64; omega
  by_cases q1 : e1 = 0
  · subst q1
    by_cases q2 : e2 = 0
    · subst q2
      go_enter Try.func41, Try.ntmps41
      go_wp2_with fail
      refine (F1.out _).mono ?_
      rintro e v1 ⟨rfl, b0⟩
      go_wp2_with fail
      refine (F2.out _).mono ?_
      rintro e w1 ⟨rfl, b1'⟩
      have b1 := b0.trans (b1'.mono b0.size)
      clear F2 b0 b1'
      have g0 : w1.heap[w.heap.size]? = some (.cells #[.int .i64 0, .string .empty, .string .empty] 44 (0, 0)) := (b1.block w.heap.size (by simp)).trans (heap_alloc_new _ _)
      obtain ⟨c0, c1, c2, cf⟩ := cell3 g0
      have f0 := cf 0
      have f1 := cf 1
      have f2 := cf 2
      have hN : w.heap.size < w1.heap.size := by have := b1.size; simp at this; omega
      have K : Hid (∀ x0 x1 x2, (((w1.setCell ⟨w.heap.size, 0, none⟩ x0).setCell ⟨w.heap.size, 1, none⟩ x1).setCell ⟨w.heap.size, 2, none⟩ x2).heap[w.heap.size]? = some (.cells #[x0, x1, x2] 44 (0, 0)) ∧ Below w.heap.size w (((w1.setCell ⟨w.heap.size, 0, none⟩ x0).setCell ⟨w.heap.size, 1, none⟩ x1).setCell ⟨w.heap.size, 2, none⟩ x2)) := Lib.hid fun x0 x1 x2 => ⟨res3 g0 _ _ _, below3c ((below_alloc _ _).trans (b1.mono (by simp))) (Nat.le_refl _) _ _ _⟩
      clear b1 cf g0 F1
      go_wp2_with fail
      obtain ⟨kk, kb⟩ := K.out (.int .i64 1) (.string ⟨t1.toArray⟩) (.string ⟨t2.toArray⟩)
      generalize ((w1.setCell ⟨w.heap.size, 0, none⟩ (.int .i64 1)).setCell ⟨w.heap.size, 1, none⟩ (.string ⟨t1.toArray⟩)).setCell ⟨w.heap.size, 2, none⟩ (.string ⟨t2.toArray⟩) = V at *
      obtain ⟨a0, a1, a2, _⟩ := cell3 kk
      refine bodyPost_ret (v := .tuple #[wrV 1 ⟨t1.toArray⟩ ⟨t2.toArray⟩, .int .i64 ((n1 + n2 : Nat) : Int), .int .i64 0]) (by simp [results, Try.results41, go_sem, a0, a1, a2]) rfl ⟨.inr ⟨⟨1, ⟨t1.toArray⟩, ⟨t2.toArray⟩⟩, n1 + n2, hd.out.trans (by rw [if_neg (by simp), if_neg (by simp)]), by omega, rfl⟩, kb⟩
    · have q2' : (((e2 : Nat) : Int) != 0) = true := by simp; omega
      go_enter Try.func41, Try.ntmps41
      go_wp2_with fail
      refine (F1.out _).mono ?_
      rintro e v1 ⟨rfl, b0⟩
      go_wp2_with fail
      refine (F2.out _).mono ?_
      rintro e w1 ⟨rfl, b1'⟩
      have b1 := b0.trans (b1'.mono b0.size)
      clear F2 b0 b1'
      have g0 : w1.heap[w.heap.size]? = some (.cells #[.int .i64 0, .string .empty, .string .empty] 44 (0, 0)) := (b1.block w.heap.size (by simp)).trans (heap_alloc_new _ _)
      obtain ⟨c0, c1, c2, cf⟩ := cell3 g0
      have f0 := cf 0
      have f1 := cf 1
      have f2 := cf 2
      have hN : w.heap.size < w1.heap.size := by have := b1.size; simp at this; omega
      have K : Hid (∀ x0 x1 x2, (((w1.setCell ⟨w.heap.size, 0, none⟩ x0).setCell ⟨w.heap.size, 1, none⟩ x1).setCell ⟨w.heap.size, 2, none⟩ x2).heap[w.heap.size]? = some (.cells #[x0, x1, x2] 44 (0, 0)) ∧ Below w.heap.size w (((w1.setCell ⟨w.heap.size, 0, none⟩ x0).setCell ⟨w.heap.size, 1, none⟩ x1).setCell ⟨w.heap.size, 2, none⟩ x2)) := Lib.hid fun x0 x1 x2 => ⟨res3 g0 _ _ _, below3c ((below_alloc _ _).trans (b1.mono (by simp))) (Nat.le_refl _) _ _ _⟩
      clear b1 cf g0 F1
      go_wp2_with fail
      obtain ⟨kk, kb⟩ := K.out (.int .i64 0) (.string ⟨#[]⟩) (.string ⟨#[]⟩)
      generalize ((w1.setCell ⟨w.heap.size, 0, none⟩ (.int .i64 0)).setCell ⟨w.heap.size, 1, none⟩ (.string ⟨#[]⟩)).setCell ⟨w.heap.size, 2, none⟩ (.string ⟨#[]⟩) = V at *
      obtain ⟨a0, a1, a2, _⟩ := cell3 kk
      refine bodyPost_ret (v := .tuple #[wrV 0 ⟨#[]⟩ ⟨#[]⟩, .int .i64 0, .int .i64 (e2 : Int)]) (by simp [results, Try.results41, go_sem, a0, a1, a2]) rfl ⟨.inl ⟨hd.out.trans (by rw [if_neg (by simp), if_pos q2]), (e2 : Int), by omega, rfl⟩, kb⟩
  · have q1' : (((e1 : Nat) : Int) != 0) = true := by simp; omega
    go_enter Try.func41, Try.ntmps41
    go_wp2_with fail
    refine (F1.out _).mono ?_
    rintro e w1 ⟨rfl, b1⟩
    clear F2
    have g0 : w1.heap[w.heap.size]? = some (.cells #[.int .i64 0, .string .empty, .string .empty] 44 (0, 0)) := (b1.block w.heap.size (by simp)).trans (heap_alloc_new _ _)
    obtain ⟨c0, c1, c2, cf⟩ := cell3 g0
    have f0 := cf 0
    have f1 := cf 1
    have f2 := cf 2
    have hN : w.heap.size < w1.heap.size := by have := b1.size; simp at this; omega
    have K : Hid (∀ x0 x1 x2, (((w1.setCell ⟨w.heap.size, 0, none⟩ x0).setCell ⟨w.heap.size, 1, none⟩ x1).setCell ⟨w.heap.size, 2, none⟩ x2).heap[w.heap.size]? = some (.cells #[x0, x1, x2] 44 (0, 0)) ∧ Below w.heap.size w (((w1.setCell ⟨w.heap.size, 0, none⟩ x0).setCell ⟨w.heap.size, 1, none⟩ x1).setCell ⟨w.heap.size, 2, none⟩ x2)) := Lib.hid fun x0 x1 x2 => ⟨res3 g0 _ _ _, below3c ((below_alloc _ _).trans (b1.mono (by simp))) (Nat.le_refl _) _ _ _⟩
    clear b1 cf g0 F1
    go_wp2_with fail
    obtain ⟨kk, kb⟩ := K.out (.int .i64 0) (.string ⟨#[]⟩) (.string ⟨#[]⟩)
    generalize ((w1.setCell ⟨w.heap.size, 0, none⟩ (.int .i64 0)).setCell ⟨w.heap.size, 1, none⟩ (.string ⟨#[]⟩)).setCell ⟨w.heap.size, 2, none⟩ (.string ⟨#[]⟩) = V at *
    obtain ⟨a0, a1, a2, _⟩ := cell3 kk
    refine bodyPost_ret (v := .tuple #[wrV 0 ⟨#[]⟩ ⟨#[]⟩, .int .i64 0, .int .i64 (e1 : Int)]) (by simp [results, Try.results41, go_sem, a0, a1, a2]) rfl ⟨.inl ⟨hd.out.trans (if_pos q1), (e1 : Int), by omega, rfl⟩, kb⟩
/-- The function that decodes the writes of a kind. -/
theorem decoder_any (k : UInt8) (s : ByteArray) (hs : s.size ≤ reachBytes) (w : World) : Calls Try.prog (kindF k) #[.string s] w (Decoded k s w) := by
  unfold kindF
  by_cases h1 : k = 1
  · subst h1; rw [if_pos rfl]; exact decodePut_any s hs w
  · rw [if_neg h1]
    by_cases h2 : k = 2
    · subst h2; rw [if_pos rfl]; exact decodeDelete_any s hs w
    · rw [if_neg h2]; exact decodeNone_any k h1 h2 s w
end Go.Proofs.Ytaanclnppfpocaa
