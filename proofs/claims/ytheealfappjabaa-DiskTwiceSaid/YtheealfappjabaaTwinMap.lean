/-
  A map keyed by pointers to files (twins): what a look-up and an update of it run to. Condition: each key's block stands.
-/
import Derived.Test.YtheealfappjabaaDiskPair
import Derived.LaidEql
import Derived.MapKept
namespace Go.Proofs.Ytheealfappjabaa
open Go Go.RowKit Go.Maps
/-- A block of a file. -/
def FileBlk (b : Nat) (w : World) : Prop := ∃ cs, w.heap[b]? = some (.cells cs 59 (0, 0))
theorem equal_file {b c : Nat} {w : World} (hb : FileBlk b w) (hc : FileBlk c w) : (Op.equal 55 (at0 b) (at0 c)).run Try.prog w = .ok (b == c) w := by
  have hp : Try.prog.underlying 55 = some (.pointer 59) := Try.underlying55
  have hsz : ∀ u : World, (Go.sizeOf 59).run Try.prog u = .ok 2 u := fun u => by kernel_rfl
  obtain ⟨cb, hb⟩ := hb
  obtain ⟨cc, hc⟩ := hc
  have key : (sameAddr ⟨b, 0, none⟩ ⟨c, 0, none⟩).run Try.prog w = .ok (b == c) w := by
    by_cases e : b = c
    · subst e
      rw [run_sameAddr_same]; simp
    · rw [run_sameAddr_other w (fun h => e (congrArg Addr.block h)) hb hc]
      simp [e]
  have hd : ∀ d : Nat, (Op.equalIn (d + 1) 55 (at0 b) (at0 c)).run Try.prog w = .ok (b == c) w := fun d => by simp [Op.equalIn, run_underlying hp, hsz, key]
  exact hd 9999
/-- The map of the twins: each file's block with its twin's, in the order in which they were put. -/
def TwinMap (mb : Nat) (L : List (Nat × Nat)) (w : World) : Prop := ∃ es clock, w.heap[mb]? = some (.map es clock) ∧ es.toList.map (fun e => (e.key, e.val)) = L.map fun x => (at0 x.1, at0 x.2)
def twinOf (L : List (Nat × Nat)) (b : Nat) : Option Nat := (L.find? fun x => b == x.1).map (·.2)
theorem asking {b : Nat} {w : World} (hb : FileBlk b w) : ∀ (L : List (Nat × Nat)) (es : List MapEntry) (i : Nat), (∀ x ∈ L, FileBlk x.1 w) → es.map (fun e => (e.key, e.val)) = L.map (fun x => (at0 x.1, at0 x.2)) →
    ((Instr.findAsking 55 (at0 b) es i).run Try.prog w = .ok none w ∧ twinOf L b = none) ∨ ∃ j c, (Instr.findAsking 55 (at0 b) es i).run Try.prog w = .ok (some (j, at0 c)) w ∧ twinOf L b = some c
  | [], es, i, _, he => by
    have : es = [] := by simpa using he
    subst this
    exact .inl ⟨by simp [Instr.findAsking], rfl⟩
  | x :: L, [], i, _, he => by cases he
  | x :: L, e :: es, i, hL, he => by
    simp only [List.map_cons, List.cons.injEq, Prod.mk.injEq] at he
    obtain ⟨⟨hk, hv⟩, he⟩ := he
    have hq := equal_file hb (hL x (by simp))
    by_cases hx : b = x.1
    · refine .inr ⟨i, x.2, ?_, by unfold twinOf; simp [List.find?, hx]⟩
      have hq' : (Op.equal 55 (at0 b) e.key).run Try.prog w = .ok true w := by rw [hk, hq]; simp [hx]
      simp [Instr.findAsking, hq', hv]
    · have hq' : (Op.equal 55 (at0 b) e.key).run Try.prog w = .ok false w := by rw [hk, hq]; simp [hx]
      have hxb : (b == x.1) = false := by simpa using hx
      have ht : twinOf (x :: L) b = twinOf L b := by unfold twinOf; simp [List.find?, hxb]
      rcases asking hb L es (i + 1) (fun y hy => hL y (by simp [hy])) he with ⟨h1, h2⟩ | ⟨j, c, h1, h2⟩
      · exact .inl ⟨by simp [Instr.findAsking, hq', h1], by rw [ht, h2]⟩
      · exact .inr ⟨j, c, by simp [Instr.findAsking, hq', h1], by rw [ht, h2]⟩
theorem find_asks {b : Nat} {w : World} (es : List MapEntry) (hes : ∀ e ∈ es, ∃ c, e.key = at0 c) : (Instr.findKey 55 (at0 b) es).run Try.prog w = (Instr.findAsking 55 (at0 b) es 0).run Try.prog w := by
  have hp : Try.prog.underlying 55 = some (.pointer 59) := Try.underlying55
  cases es with
  | nil => simp [Instr.findKey, run_underlying hp, Instr.findNow, Instr.findAsking]
  | cons e r =>
    obtain ⟨c, hc⟩ := hes e (by simp)
    simp [Instr.findKey, run_underlying hp, Instr.findNow, Instr.sameNow, hc]
theorem keys_at0 {es : List MapEntry} {L : List (Nat × Nat)} (he : es.map (fun e => (e.key, e.val)) = L.map (fun x => (at0 x.1, at0 x.2))) : ∀ e ∈ es, ∃ c, e.key = at0 c := fun e hm => by
  have : (e.key, e.val) ∈ L.map (fun x => (at0 x.1, at0 x.2)) := by rw [← he]; exact List.mem_map_of_mem hm
  obtain ⟨x, _, hx⟩ := List.mem_map.1 this
  exact ⟨x.1, (Prod.mk.inj hx).1.symm⟩
def twinV (o : Option Nat) : Value := match o with | some c => at0 c | none => .pointer none
theorem check_ptr (e : Bool) (b : Nat) (w : World) : (Instr.checkKey e 10000 55 (at0 b)).run Try.prog w = .ok () w := by
  have hp : Try.prog.underlying 55 = some (.pointer 59) := Try.underlying55
  have hd : ∀ d : Nat, (Instr.checkKey e (d + 1) 55 (at0 b)).run Try.prog w = .ok () w := fun d => by simp [Instr.checkKey, run_underlying hp]
  exact hd 9999
theorem twin_look {mb b : Nat} {L : List (Nat × Nat)} {w : World} (h : TwinMap mb L w) (hb : FileBlk b w) (hL : ∀ x ∈ L, FileBlk x.1 w) : (Instr.lookup 81 (.map (some mb)) (at0 b) false).run Try.prog w = .ok (twinV (twinOf L b)) w := by
  have hm : Try.prog.underlying 81 = some (.map 55 55) := Try.underlying81
  obtain ⟨es, clock, hh, he⟩ := h
  have hf := find_asks (b := b) (w := w) es.toList (keys_at0 he)
  rcases asking hb L es.toList 0 hL he with ⟨h1, h2⟩ | ⟨j, c, h1, h2⟩
  · rw [h2]
    rw [h1] at hf
    simp [Instr.lookup, run_underlying hm, run_getObj_map w mb es clock hh, check_ptr, hf, twinV, Result.andThen]
  · rw [h2]
    rw [h1] at hf
    simp [Instr.lookup, run_underlying hm, run_getObj_map w mb es clock hh, check_ptr, hf, twinV, Result.andThen]
theorem twin_put {mb b c : Nat} {L : List (Nat × Nat)} {w : World} (h : TwinMap mb L w) (hb : FileBlk b w) (hL : ∀ x ∈ L, FileBlk x.1 w) (hn : twinOf L b = none) :
    ∃ es clock, (Instr.mapUpdate 81 (.map (some mb)) (at0 b) (at0 c)).run Try.prog w = .ok () { w with heap := w.heap.setIfInBounds mb (.map es clock) } ∧ es.toList.map (fun e => (e.key, e.val)) = (L ++ [(b, c)]).map fun x => (at0 x.1, at0 x.2) := by
  have hm : Try.prog.underlying 81 = some (.map 55 55) := Try.underlying81
  obtain ⟨es, clock, hh, he⟩ := h
  have hf := find_asks (b := b) (w := w) es.toList (keys_at0 he)
  rcases asking hb L es.toList 0 hL he with ⟨h1, h2⟩ | ⟨j, c', h1, h2⟩
  · rw [h1] at hf
    refine ⟨es.push { key := at0 b, val := at0 c, born := clock }, clock + 1, ?_, ?_⟩
    · simp [Instr.mapUpdate, run_underlying hm, run_getObj_map w mb es clock hh, Go.MapKept.run_setObj_map _ hh, check_ptr, hf, Result.andThen]
    · simp [he]
  · rw [hn] at h2; cases h2
end Go.Proofs.Ytheealfappjabaa
