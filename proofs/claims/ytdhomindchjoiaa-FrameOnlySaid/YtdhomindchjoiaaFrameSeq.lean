/-
  What the program's iterator over frames hands over: plain mathematics; and the iterator's contract. Condition: a text of at most 100000 bytes.
-/
import Derived.Test.YtdhomindchjoiaaFrameGet
import Derived.Test.YtdhomindchjoiaaFrameAllRef
import Derived.Test.YtdhomindchjoiaaUntil
import Derived.Shelf.Abstract
import Derived.Shelf.RegionOpen
import Derived.WalkKit
import Derived.OwnWalkIn
import Derived.TacticsInMore
import Derived.LoopNIn
import Derived.LoopIn
namespace Go.Proofs.Ytdhomindchjoiaa
open Go.RowKit
attribute [local go_sem] Oper.semAt_some
/-- What the iterator hands over: a payload, how many bytes its frame has, the error's number. -/
abbrev Found := List UInt8 × Nat × Nat
def foundSizes (l : List Found) : Nat := (l.map fun x => x.2.1).sum
def foundTexts (l : List Found) : List (List UInt8) := l.map fun x => x.1
theorem foundSizes_snoc (l : List Found) (x : Found) : foundSizes (l ++ [x]) = foundSizes l + x.2.1 := by simp [foundSizes]
theorem foundTexts_snoc (l : List Found) (x : Found) : foundTexts (l ++ [x]) = foundTexts l ++ [x.1] := by simp [foundTexts]
def encFound (x : Found) : Array Value := #[.agg #[.string ⟨x.1.toArray⟩, .int .i64 (x.2.1 : Int), .int .i64 (x.2.2 : Int)]]
def NoError (pre : List Found) : Prop := ∀ x ∈ pre, x.2.2 = 0
/-- What has come of the bytes L is the frames at their beginning. -/
structure Reads (L : List UInt8) (pre : List Found) : Prop where
  le : foundSizes pre ≤ L.length
  len : pre.length ≤ foundSizes pre
  eq : Frame.alls L = liftA (foundTexts pre) (foundSizes pre) (Frame.alls (L.drop (foundSizes pre)))
/-- What comes next. -/
structure NextFound (L : List UInt8) (pre : List Found) (x : Found) : Prop where
  reads : Reads L pre
  some' : L.drop (foundSizes pre) ≠ []
  is : x = Frame.get (L.drop (foundSizes pre))
theorem reads_nil (L : List UInt8) : Reads L [] := ⟨by simp [foundSizes], by simp, by simp [foundSizes, foundTexts, liftA]⟩
theorem NextFound.step {L : List UInt8} {pre : List Found} {x : Found} (h : NextFound L pre x) (h0 : x.2.2 = 0) : Reads L (pre ++ [x]) ∧ 5 ≤ x.2.1 ∧ foundSizes pre + x.2.1 ≤ L.length := by
  obtain ⟨⟨h1, h2, h3⟩, h4, rfl⟩ := h
  obtain ⟨h5, h6, _⟩ := Frame.put_get _ h0
  rw [List.length_drop] at h6
  refine ⟨⟨?_, ?_, ?_⟩, h5, by omega⟩
  · rw [foundSizes_snoc]; omega
  · rw [foundSizes_snoc, List.length_append]; simp; omega
  · rw [h3, liftA_one _ _ h0, foundSizes_snoc, foundTexts_snoc, List.drop_drop]
theorem NextFound.stop {L : List UInt8} {pre : List Found} {x : Found} (h : NextFound L pre x) (h0 : x.2.2 ≠ 0) : Frame.alls L = (foundTexts pre, foundSizes pre, x.2.2) := by
  obtain ⟨⟨h1, h2, h3⟩, h4, rfl⟩ := h
  rw [h3, liftA_err _ _ h4 h0]
theorem Reads.done {L : List UInt8} {xs : List Found} (h : Reads L xs) (he : foundSizes xs = L.length) : Frame.alls L = (foundTexts xs, foundSizes xs, 0) := by
  have := h.eq
  rw [List.drop_eq_nil_of_le (by omega), liftA_nil] at this
  exact this
def textLen (v : Value) : Nat := match v with | .string b => b.size | _ => 0
set_option maxRecDepth 100000 in
set_option maxHeartbeats 4000000 in
/-- The iterator's contract. -/
theorem frames_until (s : ByteArray) (hs : s.size ≤ 100000) (b B : Nat) (w : World) (hb : b < w.heap.size) (hc : w.cell? ⟨b, 0, none⟩ = some (.string s)) :
    SeqUntil Try.prog 34 #[.pointer (some ⟨b, 0, none⟩)] encFound B (NextFound s.data.toList) NoError (fun xs => Reads s.data.toList xs ∧ foundSizes xs = s.data.toList.length) w := by
  intro l J Jx W hW hJ hJx hG hY h0
  have hc' : W.cell? ⟨b, 0, none⟩ = some (.string s) := (hW.cell (p := ⟨b, 0, none⟩) hb).trans hc
  have hL := frame_len s
  have es : s = ⟨(s.data.toList.drop 0).toArray⟩ := by apply ByteArray.ext; simp
  obtain ⟨L, hLn⟩ := named s.data.toList
  rw [← hLn.out] at hL hY es ⊢
  refine callsIn_of_wp Try.func34 rfl trivial ?_ rfl
  simp only [Try.ntmps34, List.size_toArray, List.length_cons, List.length_nil, Nat.reduceAdd, Nat.reduceSub, Array.replicate_succ, Array.replicate_zero, List.push_toArray, List.append_toArray, List.nil_append, List.cons_append]
  gi_wp2
  gi_loopw [3] (fun r wr => ∃ pre : List Found, Reads L pre ∧ r = .string ⟨(L.drop (foundSizes pre)).toArray⟩ ∧ J pre wr) (fun r _ => textLen r)
  case atStart => exact ⟨[], reads_nil L, by rw [show foundSizes [] = 0 from rfl, List.drop_zero], h0⟩
  case round =>
    obtain ⟨pre, hR, rfl, hJs⟩ := hrel
    have hle := hR.le
    by_cases ht0 : L.drop (foundSizes pre) = []
    · have hend : foundSizes pre = L.length := by have := congrArg List.length ht0; rw [List.length_drop, List.length_nil] at this; omega
      rw [ht0]
      gi_wp2
      go_end0
      exact ⟨⟨_, rfl⟩, .inl ⟨pre, ⟨hR, hend⟩, hJs⟩⟩
    · have hok : NextFound L pre (Frame.get (L.drop (foundSizes pre))) := ⟨hR, ht0, rfl⟩
      have hstep := fun h => (hok.step h)
      obtain ⟨t, ht⟩ := named (L.drop (foundSizes pre))
      have htl : t.length = L.length - foundSizes pre := by rw [ht.out, List.length_drop]
      have hdd : ∀ n, L.drop (foundSizes pre + n) = t.drop n := fun n => by rw [ht.out, List.drop_drop]
      rw [← ht.out] at ht0 hok hstep ⊢
      have c := fun u => get_any ⟨t.toArray⟩ (by rw [frame_size, htl]; omega) u
      have ed : (⟨t.toArray⟩ : ByteArray).data.toList = t := rfl
      rw [ed] at c
      have hsl := fun (n : Nat) (h : n ≤ t.length) => frame_from ⟨t.toArray⟩ n (by rw [frame_size]; exact h)
      rw [ed] at hsl
      have hy0 := fun A (h : J pre A) => hY pre _ A h hok
      unfold encFound at hy0
      obtain ⟨x, hx⟩ := named (Frame.get t)
      rw [← hx.out] at c hy0 hok hstep
      have hne : t.isEmpty = false := by cases t with | nil => exact absurd rfl ht0 | cons _ _ => rfl
      have C := Lib.hid c
      have HSL := Lib.hid hsl
      have HY := Lib.hid hy0
      have HST := Lib.hid hstep
      have HDD := Lib.hid hdd
      clear c hy0 hdd hsl hstep ed
      gi_wp2_with (refine ⟨trivial, ?_⟩; gi_at_call 16; refine (callsIn_wide.2 (C.out _)).mono ?_; rintro e w1 ⟨rfl, hb1⟩; obtain ⟨fn, tmps, assign, body, hy, hR1⟩ := HY.out w1 (hJ _ _ _ hJs hb1))
      refine hR1.mono ?_
      rintro e C' (⟨rfl, hJ3, hk3⟩ | ⟨rfl, hJx3⟩)
      · obtain ⟨hR4, h5, h6⟩ := HST.out (hG _ _ hJ3 x (by simp))
        have hs2 := HSL.out x.2.1 (by omega)
        gi_wp2
        go_roundw
        case rel => exact ⟨pre ++ [x], hR4, by rw [foundSizes_snoc, HDD.out], hJ3⟩
        case measure => show (⟨(t.drop x.2.1).toArray⟩ : ByteArray).size < (⟨t.toArray⟩ : ByteArray).size; rw [frame_size, frame_size, List.length_drop]; omega
      · gi_wp2
        refine bodyPost_ret (results_none rfl _ _ _) rfl ?_
        exact ⟨⟨_, rfl⟩, .inr ⟨pre ++ [x], hJx3⟩⟩
end Go.Proofs.Ytdhomindchjoiaa
