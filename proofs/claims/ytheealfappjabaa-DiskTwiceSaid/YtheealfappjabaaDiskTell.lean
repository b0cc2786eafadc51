/-
  Contracts of the disk's calls that only tell: made, ready, has, size, Used, Steps, Down. Condition of a name: at most the model's longest length.
-/
import Derived.Test.YtheealfappjabaaDiskRep
import Derived.WalkLawsBesides
namespace Go.Proofs.Ytheealfappjabaa
open Go.RowKit Go.Maps Go.WideMaps
abbrev at0 (b : Nat) : Value := .pointer (some ⟨b, 0, none⟩)
theorem str_keyed : Keyed Try.prog 9 := string_keyed Try.underlying9
theorem zero_ptr (w : World) : (zeroValue 55).run Try.prog w = .ok (.pointer none) w := by kernel_rfl
/-- A look-up in a directory gives the file's pointer, or nil. -/
theorem look_run {own : Own} {b : Nat} {d : Dir} {w : World} (h : MapAt own b d w) (s : ByteArray) (hs : s.size ≤ maxLen) :
    ∃ v, (∀ u : World, u.heap = w.heap → (Instr.lookup 49 (.map (some b)) (.string s) false).run Try.prog u = .ok v u) ∧ PtrH own v (d.look s.data.toList) := by
  have hkey := keyOf_string_mk Try.underlying9 (s := s) hs
  obtain ⟨v, ps, hrun, hv⟩ := World.ownsMap.lookup (t := 49) h str_keyed Try.underlying49 (zero_ptr w) (zd := .nil) (zp := []) rfl hkey
  refine ⟨v, ?_, ?_⟩
  · intro u hu
    have h' : MapAt own b d u := map_keep h (.refl _) (by rw [hu])
    obtain ⟨v', ps', hrun', hv'⟩ := World.ownsMap.lookup (t := 49) h' str_keyed Try.underlying49 (zero_ptr u) (zd := .nil) (zp := []) rfl hkey
    obtain ⟨es, clock, hb, F, _, _⟩ := h
    obtain ⟨es', clock', hb', F', _, _⟩ := h'
    rw [hu, hb] at hb'
    obtain ⟨rfl, rfl⟩ : es = es' ∧ clock = clock' := by simpa using hb'
    rcases fit_look false str_keyed Try.underlying49 (zero_ptr w) hb F hkey with ⟨r1, n1, _⟩ | ⟨e0, y, m1, k1, r1, _⟩
    · rcases fit_look false str_keyed Try.underlying49 (zero_ptr u) (by rw [hu]; exact hb) F hkey with ⟨r2, _⟩ | ⟨e1, y, m2, k2, r2, _⟩
      · rw [hrun] at r1; cases r1; exact r2
      · exact absurd k2 (n1 e1 m2)
    · rcases fit_look false str_keyed Try.underlying49 (zero_ptr u) (by rw [hu]; exact hb) F hkey with ⟨r2, n2, _⟩ | ⟨e1, y, m2, k2, r2, _⟩
      · exact absurd k1 (n2 e0 m1)
      · have : e0 = e1 := by
          obtain ⟨j, hj, e⟩ := List.getElem_of_mem m1
          obtain ⟨j', hj', e'⟩ := List.getElem_of_mem m2
          by_cases hjj : j = j'
          · subst hjj; exact e.symm.trans e'
          · exact absurd (k2.trans k1.symm) (Go.WideElems.other_key F (j := j) (by rw [List.getElem?_eq_getElem hj, e]) (by rw [List.getElem?_eq_getElem hj', e']) (fun e => hjj e.symm))
        subst this
        rw [hrun] at r1; cases r1; exact r2
  · have := toD_at d s.data.toList
    rw [this] at hv
    cases hl : d.look s.data.toList
    · rw [hl] at hv; exact idOf_nil hv
    · rw [hl] at hv; exact idOf_lit hv
theorem cell_of {w : World} {b k : Nat} {cs : Array Value} {t : TypeId} {v : Value} (h : w.heap[b]? = some (.cells cs t (0, 0))) (hv : cs[k]? = some v) : w.cell? ⟨b, k, none⟩ = some v := by
  simp [World.cell?, h, hv]
/-- A look-up whose run is known. -/
theorem wpList_lookup_run {P : Program} {w : World} {ops : Array Oper} {rest : List Oper} {o : Oper} {a : Act} {Q : Exit → Act → World → Prop}
    (hg : o.guard = none) (m x : Operand) (t : TypeId) (hop : o.op = Op.lookup t m x false) (mv xv v : Value) (hm : a.eval m = mv) (hx : a.eval x = xv)
    (hrun : (Instr.lookup t mv xv false).run P w = .ok v w) (hK : wpList P ops Q rest (a.put o.dst v) w) : wpList P ops Q (o :: rest) a w := by
  refine wpList_plain hg fun K' hK' => ?_
  unfold Oper.wp
  simp [execOp, hop, hm, hx, hrun, Result.andThen]
  exact hK' _ _ hK
theorem eq_file (q : Option Addr) (w : World) : (binOp .eql 55 (.pointer q) (.pointer none)).run Try.prog w = .ok (.bool q.isNone) w := run_eql_pointer_nil _ _ _ (by kernel_rfl)
theorem ne_file (q : Option Addr) (w : World) : (binOp .neq 55 (.pointer q) (.pointer none)).run Try.prog w = .ok (.bool (!q.isNone)) w := run_neq_pointer_nil _ _ _ (by kernel_rfl)
theorem ne_disk (q : Option Addr) (w : World) : (binOp .neq 26 (.pointer q) (.pointer none)).run Try.prog w = .ok (.bool (!q.isNone)) w := run_neq_pointer_nil _ _ _ (by kernel_rfl)
theorem ne_map (q : Option Nat) (w : World) : (binOp .neq 49 (.map q) (.map none)).run Try.prog w = .ok (.bool (!q.isNone)) w := run_neq_map_nil w _ _ _ q Try.underlying49
attribute [local go_sem] eq_file ne_file ne_disk ne_map
theorem disk_cells {w : World} {p nb kb : Nat} {st : St} {pv : Value} (h : w.heap[p]? = some (.cells (diskCells st nb kb pv) 52 (0, 0))) :
    w.cell? ⟨p, 0, none⟩ = some (.int .i64 st.room) ∧ w.cell? ⟨p, 1, none⟩ = some (.int .i64 st.steps) ∧ w.cell? ⟨p, 2, none⟩ = some (.map (some nb)) ∧ w.cell? ⟨p, 3, none⟩ = some (.int .i64 st.used) ∧
    w.cell? ⟨p, 4, none⟩ = some (.map (some kb)) ∧ w.cell? ⟨p, 5, none⟩ = some pv ∧ w.cell? ⟨p, 6, none⟩ = some (.int .i64 st.fuse) ∧ w.cell? ⟨p, 7, none⟩ = some (.bool st.down) :=
  ⟨cell_of h rfl, cell_of h rfl, cell_of h rfl, cell_of h rfl, cell_of h rfl, cell_of h rfl, cell_of h rfl, cell_of h rfl⟩
set_option maxRecDepth 100000 in
theorem made_any {base p : Nat} {own : Own} {st : St} {w : World} (h : DiskAt base own p st w) : Calls Try.prog 38 #[at0 p] w fun e w' => e = .returned (.bool true) ∧ w = w' := by
  obtain ⟨nb, kb, pv, _, _, _, hp, _⟩ := h.disk
  obtain ⟨_, _, c2, _, _, _, _, _⟩ := disk_cells hp
  clear hp h
  go_enter Try.func38, Try.ntmps38
  go_wp2
  go_ret
  exact ⟨rfl, rfl⟩
set_option maxRecDepth 100000 in
theorem ready_any {base p : Nat} {own : Own} {st : St} {w : World} (h : DiskAt base own p st w) : Calls Try.prog 53 #[at0 p] w fun e w' => e = .returned (.int .i64 (if st.down = true then 9 else 0)) ∧ w = w' := by
  obtain ⟨nb, kb, pv, _, _, _, hp, _⟩ := h.disk
  obtain ⟨_, _, _, _, _, _, _, c7⟩ := disk_cells hp
  have M := made_any h
  clear hp
  cases hd : st.down
  all_goals
    rw [hd] at c7
    go_enter Try.func53, Try.ntmps53
    go_wp2_with (go_at_call 38; ((with_reducible refine M.mono ?_); rintro e w' ⟨rfl, rfl⟩))
    go_ret
    exact ⟨rfl, rfl⟩
set_option maxRecDepth 100000 in
theorem has_any {own : Own} {b : Nat} {d : Dir} {w : World} (h : MapAt own b d w) (s : ByteArray) (hs : s.size ≤ maxLen) :
    Calls Try.prog 33 #[.map (some b), .string s] w fun e w' => e = .returned (.int .i64 (if (d.look s.data.toList).isSome = true then 0 else 4)) ∧ w = w' := by
  obtain ⟨v, hrun, hv⟩ := look_run h s hs
  have hr := Lib.hid (hrun w rfl)
  clear hrun hs h
  cases hl : d.look s.data.toList
  · rw [hl] at hv
    obtain rfl : v = .pointer none := hv
    go_enter Try.func33, Try.ntmps33
    go_wp2_with (at_lookup; refine wpList_lookup_run rfl _ _ _ rfl _ _ _ rfl rfl hr.out ?_)
    go_ret
    exact ⟨rfl, rfl⟩
  · rw [hl] at hv
    obtain ⟨f, rfl, _⟩ := hv
    go_enter Try.func33, Try.ntmps33
    go_wp2_with (at_lookup; refine wpList_lookup_run rfl _ _ _ rfl _ _ _ rfl rfl hr.out ?_)
    go_ret
    exact ⟨rfl, rfl⟩
theorem file_cells {own : Own} {b i : Nat} {f : FileS} {w : World} (h : FileAt own b i f w) : ∃ p n c, w.cell? ⟨b, 0, none⟩ = some (.slice p n c) ∧ n = f.data.length ∧ w.cell? ⟨b, 1, none⟩ = some (.int .i64 (f.sure : Int)) ∧ w.ownsRow 0 5 1 (.slice p n c) n (rowB f.data) ∧ (∀ g, (Value.slice p n c).ownBlock = some g → own g = some (.data i)) ∧ w.heap[b]? = some (.cells #[.slice p n c, .int .i64 (f.sure : Int)] 59 (0, 0)) := by
  obtain ⟨v, h1, h2, h3⟩ := h
  rcases h2.2 with ⟨rfl, hn⟩ | ⟨g, cap, cur, rfl, hr⟩
  · exact ⟨_, _, _, cell_of h1 rfl, hn.symm, cell_of h1 rfl, by rw [← hn]; rw [← hn] at h2; exact h2, h3, h1⟩
  · exact ⟨_, _, _, cell_of h1 rfl, rfl, cell_of h1 rfl, h2, h3, h1⟩
set_option maxRecDepth 100000 in
theorem size_nil (w : World) : Calls Try.prog 42 #[.pointer none] w fun e w' => e = .returned (.int .i64 0) ∧ w = w' := by
  go_enter Try.func42, Try.ntmps42
  go_wp2
  go_ret
  exact ⟨rfl, rfl⟩
set_option maxRecDepth 100000 in
theorem size_file {own : Own} {b i : Nat} {f : FileS} {w : World} (h : FileAt own b i f w) : Calls Try.prog 42 #[at0 b] w fun e w' => e = .returned (.int .i64 (f.data.length : Int)) ∧ w = w' := by
  obtain ⟨p, n, c, c0, hn, _⟩ := file_cells h
  rw [← hn]
  clear hn h
  go_enter Try.func42, Try.ntmps42
  go_wp2
  go_ret
  exact ⟨rfl, rfl⟩
theorem used_any {base p : Nat} {own : Own} {st : St} {w : World} (h : DiskAt base own p st w) : Calls Try.prog 52 #[at0 p] w fun e w' => e = .returned (.int .i64 (if st.down = true then 0 else st.used)) ∧ w = w' := by
  obtain ⟨nb, kb, pv, _, _, _, hp, _⟩ := h.disk
  obtain ⟨_, _, _, c3, _, _, _, _⟩ := disk_cells hp
  have M := ready_any h
  clear hp
  cases hd : st.down
  all_goals
    rw [hd] at M
    go_enter Try.func52, Try.ntmps52
    go_wp2_with (go_at_call 53; ((with_reducible refine M.mono ?_); rintro e w' ⟨rfl, rfl⟩))
    go_ret
    exact ⟨rfl, rfl⟩
theorem steps_any {base p : Nat} {own : Own} {st : St} {w : World} (h : DiskAt base own p st w) : Calls Try.prog 23 #[at0 p] w fun e w' => e = .returned (.int .i64 st.steps) ∧ w = w' := by
  obtain ⟨nb, kb, pv, _, _, _, hp, _⟩ := h.disk
  obtain ⟨_, c1, _, _, _, _, _, _⟩ := disk_cells hp
  have M := made_any h
  clear hp
  go_enter Try.func23, Try.ntmps23
  go_wp2_with (go_at_call 38; ((with_reducible refine M.mono ?_); rintro e w' ⟨rfl, rfl⟩))
  go_ret
  exact ⟨rfl, rfl⟩
theorem down_any {base p : Nat} {own : Own} {st : St} {w : World} (h : DiskAt base own p st w) : Calls Try.prog 18 #[at0 p] w fun e w' => e = .returned (.bool st.down) ∧ w = w' := by
  obtain ⟨nb, kb, pv, _, _, _, hp, _⟩ := h.disk
  obtain ⟨_, _, _, _, _, _, _, c7⟩ := disk_cells hp
  have M := made_any h
  clear hp
  go_enter Try.func18, Try.ntmps18
  go_wp2_with (go_at_call 38; ((with_reducible refine M.mono ?_); rintro e w' ⟨rfl, rfl⟩))
  go_ret
  exact ⟨rfl, rfl⟩
end Go.Proofs.Ytheealfappjabaa
