/-
  The closures' contracts: what each step does. Condition of names and data: at most 2^47 bytes.
-/
import Derived.Test.YtheealfappjabaaDiskOps
import Derived.Lib.AppendStr
namespace Go.Proofs.Ytheealfappjabaa
open Go.RowKit Go.Maps Go.WideMaps
attribute [local go_sem] eq_file ne_file ne_disk ne_map
/-- A new, empty file, of which no name tells yet. -/
theorem DiskAt.newFile {base p : Nat} {own : Own} {st : St} {w : World} (h : DiskAt base own p st w) :
    ∃ own', own' w.heap.size = some (.file st.files.length) ∧ DiskAt base own' p { st with files := st.files ++ [⟨[], 0⟩] } (w.alloc (.cells #[.slice none 0 0, .int .i64 0] 59)) ∧ Grow own own' w (w.alloc (.cells #[.slice none 0 0, .int .i64 0] 59)) := by
  obtain ⟨nb, kb, pv, o1, o2, o3, hp, hn, hq, hw⟩ := h.disk
  have fresh : ∀ b r, own b = some r → b ≠ w.heap.size := fun b r hb e => by have := h.lt (b := b) (by simp [hb]); omega
  have keep : ∀ b r, own b = some r → (w.alloc (.cells #[.slice none 0 0, .int .i64 0] 59)).heap[b]? = w.heap[b]? := fun b r hb => Below.heap_alloc _ _ _ (h.lt (by simp [hb]))
  obtain ⟨own', ho⟩ : ∃ own' : Own, own' = fun k => if k = w.heap.size then some (.file st.files.length) else own k := ⟨_, rfl⟩
  have old : ∀ b r, own b = some r → own' b = some r := fun b r hb => by rw [ho]; simp [fresh b r hb, hb]
  have new : ∀ b r, own' b = some r → (b = w.heap.size ∧ r = .file st.files.length) ∨ own b = some r := fun b r hb => by
    rw [ho] at hb
    simp only at hb
    split at hb
    · rename_i e; cases hb; exact .inl ⟨e, rfl⟩
    · exact .inr hb
  have hmore : More own own' := fun b i hb => old b _ hb
  refine ⟨own', by rw [ho]; simp, ⟨?_, ?_, ?_, ⟨nb, kb, pv, old _ _ o1, old _ _ o2, old _ _ o3, (keep p _ o1).trans hp, map_keep hn hmore (keep nb _ o2), map_keep hq hmore (keep kb _ o3), wait_keep hw hmore fun g hg => ⟨keep g _ hg, old g _ hg⟩⟩, ?_⟩, ⟨rfl, rfl, rfl, by simp, fun k hk _ => Below.heap_alloc _ _ _ hk, fun k hk hn' => by rw [ho]; simp [Nat.ne_of_lt hk, hn']⟩⟩
  · intro b hb
    cases e : own' b with
    | none => exact absurd e hb
    | some r =>
      rcases new b r e with ⟨rfl, _⟩ | e2
      · exact ⟨h.base, by simp⟩
      · exact ⟨(h.lo b (by simp [e2])).1, by have := h.lt (b := b) (by simp [e2]); simp; omega⟩
  · intro a b r ha hb
    rcases new a r ha with ⟨rfl, rfl⟩ | e1
    · rcases new b _ hb with ⟨rfl, _⟩ | e2
      · rfl
      · exact absurd (h.few b _ e2) (by omega)
    · rcases new b r hb with ⟨rfl, rfl⟩ | e2
      · exact absurd (h.few a _ e1) (by omega)
      · exact h.inj _ _ _ e1 e2
  · intro b i hb
    simp only [List.length_append, List.length_singleton]
    rcases new b _ hb with ⟨_, e⟩ | e
    · cases e; omega
    · have := h.few b i e; omega
  · intro b i hb
    rcases new b _ hb with ⟨rfl, e⟩ | e
    · cases e
      have e1 : fileOf (st.files ++ [⟨[], 0⟩]) st.files.length = ⟨[], 0⟩ := by simp [fileOf]
      simp only [e1]
      exact ⟨.slice none 0 0, by rw [heap_alloc_new]; rfl, World.ownsRow_nil _ _ _ _, fun g hg => by cases hg⟩
    · have e1 : fileOf (st.files ++ [⟨[], 0⟩]) i = fileOf st.files i := by
        have := h.few b i e
        simp [fileOf, List.getElem?_append, this]
      simp only [e1]
      exact file_keep (h.files b i e) (keep b _ e) fun g hg => ⟨keep g _ hg, old g _ hg⟩
theorem Did.grow {base p : Nat} {o1 o2 : Own} {st : St} {r : Value} {w u : World} {e : Ending} {w' : World} (hg : Grow o1 o2 w u) (h : Did base o2 p st r u e w') : Did base o1 p st r w e w' := by
  obtain ⟨own', he, hd, hg'⟩ := h
  exact ⟨own', he, hd, hg.trans hg'⟩
set_option maxRecDepth 100000 in
set_option maxHeartbeats 1000000 in
theorem create_do {base p bd bn : Nat} {own : Own} {st : St} {w : World} (h : DiskAt base own p st w) (n : ByteArray) (hn : n.size ≤ 140737488355328) (hne : n.data.toList ≠ []) (hd : st.dir.length ≤ 1048576) (hw : st.wait.length ≤ 1048576)
    (hd0 : w.cell? ⟨bd, 0, none⟩ = some (at0 p)) (hn0 : w.cell? ⟨bn, 0, none⟩ = some (.string n)) :
    Calls Try.prog 28 #[at0 bd, at0 bn] w (Did base own p (st.createF n.data.toList) (.tuple #[]) w) := by
  obtain ⟨own1, ho1, d1, g1⟩ := h.newFile
  have C := Lib.hid (change_any d1 .empty n (by decide) (by omega) (at0 w.heap.size) (some st.files.length) ⟨_, rfl, ho1⟩ ⟨fun e => (by cases e), fun e => absurd e hne⟩ hd hw)
  have g1 := Lib.hid g1
  clear d1 hn hne hd hw h
  go_enter Try.func28, Try.ntmps28
  go_wp2_with (go_at_call 29; refine C.out.mono ?_; rintro e w' ⟨own', rfl, d2, g2⟩)
  go_end0
  exact ⟨own', rfl, d2, g1.out.trans g2⟩
/-- A file's bytes, or how many of them are sure, have turned: its block, and the row of its bytes, that lies where it lay, or in a new block. -/
theorem DiskAt.newData {base p fb i : Nat} {own : Own} {st : St} {w w2 : World} (h : DiskAt base own p st w) (hfb : own fb = some (.file i)) {v v' : Value} (f : FileS) (hvo : ∀ g, v.ownBlock = some g → own g = some (.data i))
    (hW : w2.os = w.os ∧ w2.tape = w.tape ∧ w2.output = w.output ∧ w.heap.size ≤ w2.heap.size) (hk : ∀ k, k < w.heap.size → k ≠ fb → v.ownBlock ≠ some k → w2.heap[k]? = w.heap[k]?)
    (hc : w2.heap[fb]? = some (.cells #[v', .int .i64 (f.sure : Int)] 59 (0, 0))) (hrow : w2.ownsRow 0 5 1 v' f.data.length (rowB f.data)) (hat : v'.ownBlock = v.ownBlock ∨ ∀ g, v'.ownBlock = some g → w.heap.size ≤ g) :
    ∃ own', own' fb = some (.file i) ∧ DiskAt base own' p (st.setFile i f) w2 ∧ Grow own own' w w2 := by
  obtain ⟨nb, kb, pv, o1, o2, o3, hp, hn, hq, hw⟩ := h.disk
  obtain ⟨own', ho⟩ : ∃ own' : Own, own' = fun k => if v'.ownBlock = some k then some (.data i) else if own k = some (.data i) then none else own k := ⟨_, rfl⟩
  have hpl : ∀ g, v'.ownBlock = some g → own g = some (.data i) ∨ (own g = none ∧ w.heap.size ≤ g) := by
    intro g hg
    rcases hat with e | e
    · exact .inl (hvo g (by rw [← e]; exact hg))
    · right
      refine ⟨?_, e g hg⟩
      cases e2 : own g with
      | none => rfl
      | some r => exact absurd (h.lt (b := g) (by simp [e2])) (by have := e g hg; omega)
  have old : ∀ b r, own b = some r → r ≠ .data i → own' b = some r := by
    intro b r hb hr
    have h1 : v'.ownBlock ≠ some b := fun e => by
      rcases hpl b e with e2 | ⟨e2, _⟩
      · rw [hb] at e2; cases e2; exact hr rfl
      · rw [hb] at e2; cases e2
    rw [ho]; simp [h1, hb, hr]
  have new : ∀ b r, own' b = some r → (v'.ownBlock = some b ∧ r = .data i) ∨ (own b = some r ∧ r ≠ .data i) := by
    intro b r hb
    rw [ho] at hb
    simp only at hb
    split at hb
    · rename_i e; cases hb; exact .inl ⟨e, rfl⟩
    · split at hb
      · cases hb
      · rename_i e2; exact .inr ⟨hb, fun h3 => e2 (by rw [hb, h3])⟩
  have keep : ∀ b r, own b = some r → r ≠ .data i → r ≠ .file i → w2.heap[b]? = w.heap[b]? := by
    intro b r hb hr hr2
    refine hk b (h.lt (by simp [hb])) (fun e => ?_) (fun e => ?_)
    · rw [e, hfb] at hb; cases hb; exact hr2 rfl
    · rw [hvo b e] at hb; cases hb; exact hr rfl
  have hmore : More own own' := fun b j hb => old b _ hb (by simp)
  have hfl : (st.setFile i f).files.length = st.files.length := by simp [St.setFile]
  refine ⟨own', hmore _ _ hfb, ⟨?_, ?_, ?_, ⟨nb, kb, pv, old _ _ o1 (by simp), old _ _ o2 (by simp), old _ _ o3 (by simp), (keep p _ o1 (by simp) (by simp)).trans hp, map_keep hn hmore (keep nb _ o2 (by simp) (by simp)), map_keep hq hmore (keep kb _ o3 (by simp) (by simp)), wait_keep hw hmore fun g hg => ⟨keep g _ hg (by simp) (by simp), old g _ hg (by simp)⟩⟩, ?_⟩, ⟨hW.1, hW.2.1, hW.2.2.1, hW.2.2.2, ?_, ?_⟩⟩
  · intro b hb
    cases e : own' b with
    | none => exact absurd e hb
    | some r =>
      rcases new b r e with ⟨e1, _⟩ | ⟨e2, _⟩
      · have hlt := (World.ownsRow.lt hrow b e1).2
        rcases hpl b e1 with e3 | ⟨_, e3⟩
        · exact ⟨(h.lo b (by simp [e3])).1, hlt⟩
        · have := h.base; exact ⟨by omega, hlt⟩
      · exact ⟨(h.lo b (by simp [e2])).1, Nat.lt_of_lt_of_le (h.lt (by simp [e2])) hW.2.2.2⟩
  · intro a b r ha hb
    rcases new a r ha with ⟨e1, rfl⟩ | ⟨e1, n1⟩
    · rcases new b _ hb with ⟨e2, _⟩ | ⟨_, n2⟩
      · rw [e1] at e2; exact Option.some.inj e2
      · exact absurd rfl n2
    · rcases new b r hb with ⟨_, rfl⟩ | ⟨e2, _⟩
      · exact absurd rfl n1
      · exact h.inj _ _ _ e1 e2
  · intro b j hb
    rw [hfl]
    rcases new b _ hb with ⟨_, e⟩ | ⟨e, _⟩
    · cases e
    · exact h.few b j e
  · intro b j hb
    rcases new b _ hb with ⟨_, e⟩ | ⟨e, _⟩
    · cases e
    · by_cases hj : j = i
      · subst hj
        obtain rfl := h.inj _ _ _ e hfb
        have e1 : fileOf (st.setFile j f).files j = f := by
          have := h.few b j e
          simp [fileOf, St.setFile, this]
        rw [e1]
        exact ⟨v', hc, hrow, fun g hg => by rw [ho]; simp [hg]⟩
      · have e1 : fileOf (st.setFile i f).files j = fileOf st.files j := by
          simp [fileOf, St.setFile, List.getElem?_set_ne (Ne.symm hj)]
        rw [e1]
        refine file_keep (h.files b j e) (keep b _ e (by simp) (by simpa using hj)) fun g hg => ⟨keep g _ hg (by simpa using hj) (by simp), old g _ hg (by simpa using hj)⟩
  · intro k hk' hn'
    refine hk k hk' (fun e => by rw [e, hfb] at hn'; cases hn') (fun e => by rw [hvo k e] at hn'; cases hn')
  · intro k hk' hn'
    rw [ho]
    have : v'.ownBlock ≠ some k := fun e => by
      rcases hpl k e with e2 | ⟨_, e2⟩
      · rw [hn'] at e2; cases e2
      · omega
    simp [this, hn']
/-- append of a text to bytes that are owned: and where they lie. -/
theorem run_append_text (ty : TypeId) {w : World} {v : Value} {n : Nat} {xs : List Value} (hown : w.ownsRow 0 5 1 v n xs) (s : ByteArray) (hb : n + s.size ≤ 140737488355328) :
    ∃ v' w', (Builtin.append_ #[57, 9] ty #[v, .string s]).run Try.prog w = .ok v' w' ∧ w'.ownsRow 0 5 1 v' (n + s.size) (xs ++ Lib.strCells s) ∧ w.grownBy w' v.ownBlock ∧ (v'.ownBlock = v.ownBlock ∨ ∀ g, v'.ownBlock = some g → w.heap.size ≤ g) := by
  obtain ⟨i0, hi, hz0, hz1, hz2⟩ := info_parts (show (Try.prog.info? 5).map (fun i => (i.zero, i.size, i.bytes)) = some (some (.int .u8 0), 1, 1) by kernel_rfl)
  obtain ⟨v', w', hr, h1, h2, _⟩ := Lib.run_append_own_string (P := Try.prog) w 0 57 9 ty 5 i0 Try.underlying57 Try.underlying9 hi hz0 hz1 hz2 v n xs hown s (by unfold maxLen; omega) hb (Nat.zero_le _)
  refine ⟨v', w', hr, h1, h2, ?_⟩
  rcases hown.2 with ⟨rfl, rfl⟩ | ⟨g, cap, cur, rfl, _, hg, hnc, hcm, hcs, htake⟩
  · right
    intro g hg
    have hx : xs = [] := List.eq_nil_of_length_eq_zero (by simpa using hown.1)
    subst hx
    obtain ⟨v2, w2, hr2, h12, _⟩ := Lib.run_append_own_string (P := Try.prog) w w.heap.size 57 9 ty 5 i0 Try.underlying57 Try.underlying9 hi hz0 hz1 hz2 _ 0 [] (World.ownsRow_nil w _ _ _) s (by unfold maxLen; omega) hb (Nat.le_refl _)
    rw [hr] at hr2
    cases hr2
    exact (World.ownsRow.lt h12 g hg).1
  · have hxl : xs.length = n := by simpa using hown.1
    by_cases hroom : n + s.size ≤ cap
    · left
      have hcs' : cur.size = cap := by simpa using hcs
      have hr2 := Lib.run_append_room_string (P := Try.prog) w 57 9 ty 5 i0 Try.underlying57 Try.underlying9 hi hz1 g n cap cur hg s hroom (by omega)
      rw [hr] at hr2
      cases hr2
      rfl
    · right
      intro k hk
      have holds : ∀ j u, xs[j]? = some u → w.cell? ((⟨g, 0, none⟩ : Addr).add j) = some u := hown.cells (g := g) rfl
      have hr2 := Lib.run_append_grow_string (P := Try.prog) w 57 9 ty 5 i0 (.int .u8 0) Try.underlying57 Try.underlying9 hi hz0 ⟨g, 0, none⟩ n cap xs (by rw [hz1]; simpa using hxl) holds s (by omega) (by omega) (by rw [hz2]; exact growslice_fits (by omega) (by omega))
      rw [hr] at hr2
      cases hr2
      have : w.heap.size = k := by simpa [Value.ownBlock] using hk
      omega
theorem wpList_append_disk {w : World} {ops : Array Oper} {rest : List Oper} {o : Oper} {a : Act} {Q : Exit → Act → World → Prop} (hgd : o.guard = none) (sl x : Operand)
    (ho : o.op = .call { callee := .builtin .append, args := #[sl, x], argTypes := #[57, 9] }) (v : Value) (n : Nat) (xs : List Value) (hs : a.eval sl = v) (hown : w.ownsRow 0 5 1 v n xs) (s : ByteArray) (hx : a.eval x = .string s) (hb : n + s.size ≤ 140737488355328)
    (h : ∀ p l c w', w'.ownsRow 0 5 1 (.slice p l c) (n + s.size) (xs ++ Lib.strCells s) → w.grownBy w' v.ownBlock → ((Value.slice p l c).ownBlock = v.ownBlock ∨ ∀ g, (Value.slice p l c).ownBlock = some g → w.heap.size ≤ g) → wpList Try.prog ops Q rest (a.put o.dst (.slice p l c)) w') : wpList Try.prog ops Q (o :: rest) a w := by
  refine wpList_plain hgd fun K hK => ?_
  obtain ⟨v', w', hr, h1, h2, h3⟩ := run_append_text o.type hown s hb
  obtain ⟨p, l, c, rfl⟩ : ∃ p l c, v' = .slice p l c := by
    rcases h1.2 with ⟨rfl, _⟩ | ⟨g, cap, cur, rfl, _⟩
    · exact ⟨_, _, _, rfl⟩
    · exact ⟨_, _, _, rfl⟩
  unfold Oper.wp execOp
  simp only [ho, resolve, invoke, builtin, Sem.run_bind, Sem.run_pure, Result.andThen_ok, List.map_toArray, List.map_cons, List.map_nil, hs, hx, hr]
  exact hK _ _ (h p l c w' h1 h2 h3)
theorem step_append_disk {w : World} {ops : Array Oper} {o : Oper} {a : Act} {K : Act → World → Prop} {Q : Exit → Act → World → Prop} {E : Prop} (hgd : o.guard = none) (sl x : Operand)
    (ho : o.op = .call { callee := .builtin .append, args := #[sl, x], argTypes := #[57, 9] }) (v : Value) (n : Nat) (xs : List Value) (hs : a.eval sl = v) (hown : w.ownsRow 0 5 1 v n xs) (s : ByteArray) (hx : a.eval x = .string s) (hb : n + s.size ≤ 140737488355328)
    (h : ∀ p l c w', w'.ownsRow 0 5 1 (.slice p l c) (n + s.size) (xs ++ Lib.strCells s) → w.grownBy w' v.ownBlock → ((Value.slice p l c).ownBlock = v.ownBlock ∨ ∀ g, (Value.slice p l c).ownBlock = some g → w.heap.size ≤ g) → K (a.put o.dst (.slice p l c)) w') :
    if Region.wanted o (yielded ops a.tmps) = true then Oper.wp Try.prog o a w K Q else E := by
  have hw : Region.wanted o (yielded ops a.tmps) = true := by simp [Region.wanted, hgd]
  rw [if_pos hw]
  obtain ⟨v', w', hr, h1, h2, h3⟩ := run_append_text o.type hown s hb
  obtain ⟨p, l, c, rfl⟩ : ∃ p l c, v' = .slice p l c := by
    rcases h1.2 with ⟨rfl, _⟩ | ⟨g, cap, cur, rfl, _⟩
    · exact ⟨_, _, _, rfl⟩
    · exact ⟨_, _, _, rfl⟩
  unfold Oper.wp execOp
  simp only [ho, resolve, invoke, builtin, Sem.run_bind, Sem.run_pure, Result.andThen_ok, List.map_toArray, List.map_cons, List.map_nil, hs, hx, hr]
  exact h p l c w' h1 h2 h3
theorem rowB_app (l : List UInt8) (s : ByteArray) : rowB l ++ Lib.strCells s = rowB (l ++ s.data.toList) := by simp [rowB, Lib.strCells]
/-- A cell of a block that is not the disk's. -/
theorem Grow.cell {own own' : Own} {w w' : World} (h : Grow own own' w w') {b k : Nat} {v : Value} (hb : own b = none) (hc : w.cell? ⟨b, k, none⟩ = some v) : w'.cell? ⟨b, k, none⟩ = some v :=
  (World.cell?_of_block (a := ⟨b, k, none⟩) (h.block b (World.block_lt_of_cell? _ _ hc) hb)).trans hc
end Go.Proofs.Ytheealfappjabaa
