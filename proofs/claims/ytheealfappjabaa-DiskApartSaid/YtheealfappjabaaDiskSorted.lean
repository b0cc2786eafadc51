/-
  The names of a directory, in order (sorted); a directory's clone. Condition: at most 2^40 names.
-/
import Derived.Test.YtheealfappjabaaDiskSteps
namespace Go.Proofs
open Go.RowKit Go.Maps Go.Sort Go.Shelf
theorem Try.sortsAll (m : Nat) : AnyZ.SortsIn Try.prog Try.sorted_ren Fence.wide m :=
  ⟨fun blk off cap ss W hH hblk hsz => callsIn_wide.2 (AnyM.slices_Sort_string Try.sort blk off cap ss W hH hblk hsz),
   fun p cap W => callsIn_wide.2 (AnyM.slices_Sort_string_none Try.sort p cap W)⟩
theorem Try.keysAll (mb : Option Nat) (W : World) : CallsIn Fence.wide 5 Try.prog 61 #[.map mb] W fun e w' => e = .returned (.func (.func 67) #[] #[.pointer (some ⟨W.heap.size, 0, none⟩)]) ∧ w' = W.alloc (.cells #[.map mb] 49) :=
  AnyZ.keys_in Try.keys Fence.wide 5 trivial rfl mb W
set_option maxHeartbeats 1000000 in
theorem Try.sortedAll {H : Type} (b nn : Nat) (D0 : DataW H) (R : Value → Option (DataW H × List MemPlace)) (w : World) (hown : w.ownsMap Try.prog 9 R b nn D0) (hmax : Maps.size D0 ≤ maxLen) (hbytes : Maps.size D0 * 16 ≤ 140737488355328) :
    CallsIn Fence.wide 5 Try.prog 60 #[.func (.func 67) #[] #[.pointer (some ⟨w.heap.size, 0, none⟩)]] (w.alloc (.cells #[.map (some b)] 49)) fun e w' => ∃ (v : Value) (ss : List (List UInt8)), e = .returned v ∧ ss.Perm (strKeys D0) ∧
      w'.ownsRow (w.alloc (.cells #[.map (some b)] 49)).heap.size 9 1 v ss.length ((ss.mergeSort (fun x y => decide (x ≤ y))).map encStr) ∧ (v = .slice none 0 0 ↔ ss = []) ∧ Below (w.alloc (.cells #[.map (some b)] 49)).heap.size (w.alloc (.cells #[.map (some b)] 49)) w' := by
  have hbl := hown.lt
  have hseq : SeqGives Fence.wide 2 Try.prog 67 #[.pointer (some ⟨w.heap.size, 0, none⟩)] encStr (fun ss => ss.Perm (strKeys D0)) (Maps.size D0) (w.alloc (.cells #[.map (some b)] 49)) :=
    AnyZ.keys_gives (ρ := Try.keys_ren) { Try.keys with } Fence.wide _ trivial rfl (by omega) w.heap.size b nn D0 _ (by simp) (by simp) (by
      obtain ⟨es, clock, hb, Ft, hs, hD⟩ := hown
      exact ⟨es, clock, (Below.heap_alloc _ _ b hbl).trans hb, Ft, hs, hD⟩)
  exact AnyZ.sorted_in Try.sorted Fence.wide 5 trivial trivial trivial trivial rfl (by omega) (Try.sortsAll _) (enters_of Try.func66 (by kernel_rfl) rfl) 67 #[.pointer (some ⟨w.heap.size, 0, none⟩)] trivial (enters_of Try.func67 (by kernel_rfl) rfl) _ _ hmax hbytes _ hseq
end Go.Proofs
namespace Go.Proofs.Ytheealfappjabaa
open Go.RowKit Go.Maps Go.WideMaps
theorem before_lt : ∀ a b : List UInt8, bytesBefore a b = true → a < b
  | [], [], h => by cases h
  | [], b :: s, _ => List.nil_lt_cons b s
  | a :: r, [], h => by cases h
  | a :: r, b :: s, h => by
    unfold bytesBefore at h
    rw [Bool.or_eq_true, Bool.and_eq_true, decide_eq_true_eq, beq_iff_eq] at h
    rw [List.cons_lt_cons_iff]
    rcases h with h | ⟨h1, h2⟩
    · exact .inl h
    · exact .inr ⟨h1, before_lt r s h2⟩
theorem dir_rising {own : Own} {b : Nat} {d : Dir} {w : World} (h : MapAt own b d w) : d.Pairwise fun x y => bytesBefore x.1 y.1 = true := by
  obtain ⟨es, he, hp, _⟩ := World.ownsMap.canon h str_keyed
  unfold toD at he
  cases he
  exact List.pairwise_map.1 hp
theorem keys_sorted {own : Own} {b : Nat} {d : Dir} {w : World} (h : MapAt own b d w) : (d.map (·.1)).mergeSort (fun x y => decide (x ≤ y)) = d.map (·.1) := by
  refine List.mergeSort_of_pairwise ?_
  rw [List.pairwise_map]
  exact (dir_rising h).imp fun hab => by simpa using List.le_of_lt (before_lt _ _ hab)
/-- A new slice of the names, in order. -/
def NamesAt (B : Nat) (v : Value) (d : Dir) (w : World) : Prop := w.ownsRow B 9 1 v d.length (d.map fun x => encStr x.1)
set_option maxRecDepth 100000 in
set_option maxHeartbeats 1000000 in
theorem sorted_any {own : Own} {b : Nat} {d : Dir} {w : World} (h : MapAt own b d w) (hd : d.length ≤ 1048576) :
    Calls Try.prog 41 #[.map (some b)] w fun e w' => ∃ v, e = .returned v ∧ NamesAt w.heap.size v d w' ∧ Below w.heap.size w w' := by
  have K := keys_sorted h
  have hs : Maps.size (toD d) = d.length := toD_size d
  have S := Lib.hid (Try.sortedAll b d.length (toD d) (idOf own) w h (by rw [hs]; unfold maxLen; omega) (by rw [hs]; omega))
  have hperm : ∀ ss : List (List UInt8), ss.Perm (strKeys (toD d)) → ss.length = d.length ∧ (ss.mergeSort (fun x y => decide (x ≤ y))).map encStr = d.map fun x => encStr x.1 := by
    intro ss hp
    rw [toD_keys] at hp
    refine ⟨by simpa using hp.length_eq, ?_⟩
    have e := mergeSort_of_perm hp
    have e' : ss.mergeSort (fun x y => decide (x ≤ y)) = d.map (·.1) := by
      have := e
      unfold leB at this
      rw [this, K]
    rw [e', List.map_map]; rfl
  have hperm := Lib.hid hperm
  clear K hs h
  refine (callsIn_wide (n := 6)).1 ?_
  have hfK : Fence.wide.fn 61 := trivial
  have hfS : Fence.wide.fn 60 := trivial
  refine callsIn_of_wp Try.func41 rfl trivial ?_ rfl
  simp only [Try.ntmps41, List.size_toArray, List.length_cons, List.length_nil, Nat.reduceAdd, Nat.reduceSub, Array.replicate_succ, Array.replicate_zero, List.push_toArray, List.append_toArray, List.nil_append, List.cons_append]
  gi_wp2_with (first
    | (gi_at_call 61; refine (Try.keysAll _ _).mono ?_; rintro e w' ⟨rfl, rfl⟩)
    | (gi_at_call 60; refine S.out.mono ?_; rintro e w' ⟨v, ss, rfl, hS, hrow, hnil, hb⟩))
  go_ret
  obtain ⟨p1, p2⟩ := hperm.out ss hS
  rw [p1, p2] at hrow
  refine ⟨v, rfl, ?_, ((Below.refl _ w).alloc (Nat.le_refl _) _).trans (hb.mono (by simp))⟩
  exact ownsRow_base_a hrow (by simp)
theorem clone_map {own : Own} {b : Nat} {d : Dir} {w : World} (h : MapAt own b d w) : Calls Try.prog 40 #[.map (some b)] w fun e w' => e = .returned (.map (some w.heap.size)) ∧ MapAt own w.heap.size d w' ∧ Below w.heap.size w w' ∧ w.heap.size < w'.heap.size :=
  (AnyW.maps_Clone_owns Try.mclone 9 (idOf own) b d.length (toD d) w h).mono fun _ _ ⟨h1, h2, _, h4⟩ => ⟨h1, h2, h4, World.ownsMap.lt h2⟩
end Go.Proofs.Ytheealfappjabaa
