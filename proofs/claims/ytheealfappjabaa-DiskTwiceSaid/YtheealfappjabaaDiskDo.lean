/-
  Contracts of the directory's change (do), and of a change that is done and kept (change). Condition of names: at most the model's longest length.
-/
import Derived.Test.YtheealfappjabaaDiskTell
import Derived.Test.YtheealfappjabaaShelf
import Derived.Handy
import Derived.BigQuiet
import Derived.Deep.QuietTactic
import Derived.Laws.Strings
namespace Go.Proofs.Ytheealfappjabaa
open Go.RowKit Go.Maps Go.WideMaps
attribute [local go_sem] eq_file ne_file ne_disk ne_map
theorem clone_any (s : ByteArray) (hs : s.size ≤ 281474976710656) (w : World) : Calls Try.prog 56 #[.string s] w fun e w' => e = .returned (.string s) ∧ Below w.heap.size w w' := by
  go_enter Try.func56, Try.ntmps56
  go_wp2_with (go_at_call 64; refine (Any.stringslite_Clone Try.laysM316 s _ hs).mono ?_; rintro e w' ⟨rfl, hb⟩)
  go_ret
  exact ⟨rfl, hb⟩
theorem map_tight {own : Own} {b n : Nat} {d : Dir} {w : World} (h : w.ownsMap Try.prog 9 (idOf own) b n (toD d)) : MapAt own b d w := by
  obtain ⟨es, clock, hb, F, hs, hD⟩ := h
  refine ⟨es, clock, hb, F, ?_, hD⟩
  have e : Maps.size (toD d) = es.size := by rw [hD]; show List.length _ = _; rw [length_sorted]; simp
  rw [toD_size] at e
  omega
/-- The directory behind a change; all else stands. -/
def Turned (own : Own) (b : Nat) (d : Dir) (w : World) (e : Ending) (w' : World) : Prop := e = .returned (.tuple #[]) ∧ MapAt own b d w' ∧ But b w w'
theorem but_grown {w w' : World} {b : Nat} (h : w.grownBy w' (some b)) : But b w w' := ⟨h.os, h.tape, h.output, h.size, fun k hk hb => h.block k hk (fun e => hb (by cases e; rfl))⟩
theorem but_turned {w w' : World} {b : Nat} (h : w.mapTurned w' b) : But b w w' := but_grown h.grown
theorem But.map {own : Own} {b : Nat} {d : Dir} {w w' : World} (h : MapAt own b d w) (hb : Below w.heap.size w w') : MapAt own b d w' := by
  have hlt := World.ownsMap.lt h
  exact map_keep h (.refl _) (hb.block b hlt)
theorem enc_of (n : ByteArray) : encStr n.data.toList = .string n := by simp [encStr]
theorem kept_new {b : Nat} {w w1 : World} {cs : Array Value} {t : TypeId} (hlt : b < w.heap.size) (h : But b (w.alloc (.cells cs t)) w1) (k : Nat) : w1.cell? ⟨w.heap.size, k, none⟩ = cs[k]? := by
  rw [h.cell (p := ⟨w.heap.size, k, none⟩) (by simp) (Nat.ne_of_gt hlt), World.cell?_alloc_new]
set_option maxRecDepth 100000 in
/-- A change that takes a name out, and gives none. -/
theorem do_out {own : Own} {b : Nat} {d : Dir} {w : World} (h : MapAt own b d w) (n : ByteArray) (hn : n.size ≤ maxLen) (v : Value) :
    Calls Try.prog 57 #[.map (some b), .agg #[.string n, .string .empty, v]] w (Turned own b (d.del n.data.toList) w) := by
  have hkey := keyOf_string_mk Try.underlying9 (s := n) hn
  have h1 := But.map h (below_alloc w (.cells #[.string n, .string .empty, v] 72))
  have B1 : But b w (w.alloc (.cells #[.string n, .string .empty, v] 72)) := (But.refl b w).alloc _
  have hlt := World.ownsMap.lt h
  clear h hn
  go_enter Try.func57, Try.ntmps57
  go_wp2_with (at_delete; refine wpList_delete_own _ rfl _ _ 49 9 rfl 55 str_keyed Try.underlying49 _ b _ _ rfl h1 _ _ rfl hkey ?_; intro w1 hown1 hturn1; have x0 : w1.cell? ⟨w.heap.size, 1, none⟩ = some (.string .empty) := (kept_new hlt (but_turned hturn1) 1).trans rfl)
  go_end0
  exact ⟨rfl, map_tight (toD_del d _ ▸ hown1), B1.trans (but_turned hturn1)⟩
set_option maxRecDepth 100000 in
/-- A change that takes a name out, and gives one to a file. -/
theorem do_in {own : Own} {b : Nat} {d : Dir} {w : World} (h : MapAt own b d w) (n m : ByteArray) (hn : n.size ≤ maxLen) (hm : m.size ≤ maxLen) (he : m.toList ≠ []) (hd : d.length ≤ 1048576) (f i : Nat) (hf : own f = some (.file i)) :
    Calls Try.prog 57 #[.map (some b), .agg #[.string n, .string m, at0 f]] w (Turned own b ((d.del n.data.toList).put m.data.toList i) w) := by
  have hkey := keyOf_string_mk Try.underlying9 (s := n) hn
  have hkey2 := keyOf_string_mk Try.underlying9 (s := m) hm
  have h1 := But.map h (below_alloc w (.cells #[.string n, .string m, at0 f] 72))
  have B1 : But b w (w.alloc (.cells #[.string n, .string m, at0 f] 72)) := (But.refl b w).alloc _
  have hlt := World.ownsMap.lt h
  have he1 : m.toList.isEmpty = false := List.isEmpty_eq_false_iff.2 he
  have hd' := Lib.hid hd
  have hf' := Lib.hid (idOf_file hf)
  clear h hn hm hd hf
  go_enter Try.func57, Try.ntmps57
  go_wp2_with (first
    | (at_delete; refine wpList_delete_own _ rfl _ _ 49 9 rfl 55 str_keyed Try.underlying49 _ b _ _ rfl h1 _ _ rfl hkey ?_; intro w1 hown1 hturn1; have x0 : w1.cell? ⟨w.heap.size, 1, none⟩ = some (.string m) := (kept_new hlt (but_turned hturn1) 1).trans rfl; have x1 : w1.cell? ⟨w.heap.size, 2, none⟩ = some (at0 f) := (kept_new hlt (but_turned hturn1) 2).trans rfl)
    | (at_mapUpdate; refine wpList_mapUpdate_own _ rfl _ _ _ 49 rfl 9 55 str_keyed Try.underlying49 _ b _ _ rfl hown1 (by have := hd'.out; unfold maxLen; omega) _ _ _ rfl rfl hkey2 _ [] hf'.out ?_; intro w2 hown2 hgrow2))
  go_end0
  exact ⟨rfl, map_tight (by rw [← toD_put, ← toD_del]; exact hown2), (B1.trans (but_turned hturn1)).trans (but_grown hgrow2)⟩
/-- A change as it may be: a name comes just where there is a file. -/
def Sound (c : Chg) : Prop := (c.file = none ↔ c.to = []) ∧ c.frm.length ≤ maxLen ∧ c.to.length ≤ maxLen
theorem do_any {own : Own} {b : Nat} {d : Dir} {w : World} (h : MapAt own b d w) (c : Chg) (hc : Sound c) (hd : d.length ≤ 1048576) (v : Value) (hv : PtrH own v c.file) :
    Calls Try.prog 57 #[.map (some b), .agg #[encStr c.frm, encStr c.to, v]] w (Turned own b (d.doC c) w) := by
  obtain ⟨n, m, f⟩ := c
  obtain ⟨h1, h2, h3⟩ := hc
  cases f with
  | none =>
    obtain rfl : m = [] := h1.1 rfl
    have := do_out h ⟨n.toArray⟩ (by show n.toArray.size ≤ _; simpa using h2) v
    exact this
  | some i =>
    have hm : m ≠ [] := fun e => by have := h1.2 e; cases this
    obtain ⟨f, rfl, hf⟩ := hv
    have := do_in h ⟨n.toArray⟩ ⟨m.toArray⟩ (by show n.toArray.size ≤ _; simpa using h2) (by show m.toArray.size ≤ _; simpa using h3) (by rw [ByteArray.toList_eq]; simpa using hm) hd f i hf
    have e : Dir.doC d ⟨n, m, some i⟩ = (d.del n).put m i := by simp [Dir.doC, hm]
    rw [e]
    exact this
end Go.Proofs.Ytheealfappjabaa
