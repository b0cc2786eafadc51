/-
  What a disk tells of a name: find, Read. Condition of a name: at most the model's longest length.
-/
import Derived.Test.YtheealfappjabaaDiskCrash2
import Derived.Laws.IdiomStrings
namespace Go.Proofs.Ytheealfappjabaa
open Go.RowKit Go.Maps Go.WideMaps
attribute [local go_sem] eq_file ne_file ne_disk ne_map
def St.readE (st : St) (n : NameS) : Int := if st.down = true then 9 else if (st.dir.look n).isSome = true then 0 else 4
def St.readS (st : St) (n : NameS) : List UInt8 := if st.down = true then [] else match st.dir.look n with | some i => (fileOf st.files i).data | none => []
theorem bytes_text {w : World} {v : Value} {l : List UInt8} (h : w.ownsRow 0 5 1 v l.length (rowB l)) : (convert 57 9 v).run Try.prog w = .ok (.string ⟨l.toArray⟩) w := by
  rcases h.2 with ⟨rfl, hz⟩ | ⟨g, cap, cur, rfl, _⟩
  · obtain rfl := List.length_eq_zero_iff.1 hz
    rw [run_convert_bytes_string w 57 9 5 none 0 0 Try.underlying57 Try.underlying5 Try.underlying9]
    rfl
  · refine run_convert_bytes_back w _ _ 5 ⟨g, 0, none⟩ cap l Try.underlying57 Try.underlying5 Try.underlying9 ?_
    intro j hj
    exact h.cells (g := g) rfl j _ (by simp [rowB, hj])
/-- What find hands back. -/
def Found (own : Own) (st : St) (n : NameS) (w : World) (e : Ending) (w' : World) : Prop := ∃ q, e = .returned (.tuple #[.pointer q, .int .i64 (st.readE n)]) ∧ (st.readE n = 0 → PtrH own (.pointer q) (st.dir.look n)) ∧ w = w'
set_option maxRecDepth 100000 in
set_option maxHeartbeats 1000000 in
theorem find_any {base p : Nat} {own : Own} {st : St} {w : World} (h : DiskAt base own p st w) (n : ByteArray) (hn : n.size ≤ maxLen) : Calls Try.prog 44 #[at0 p, .string n] w (Found own st n.data.toList w) := by
  obtain ⟨nb, kb, pv, _, _, _, hp, hm, _⟩ := h.disk
  obtain ⟨_, _, c2, _⟩ := disk_cells hp
  have R := Lib.hid (ready_any h)
  have H := Lib.hid (has_any hm n hn)
  obtain ⟨v, hr, hv⟩ := look_run hm n hn
  have hr0 := hr w rfl
  obtain ⟨q, rfl⟩ := hv.pointer
  have hv' := Lib.hid hv
  clear hp hm hn hr hv
  cases hd : st.down with
  | true =>
    have hE : Hid (st.readE n.data.toList = 9) := Lib.hid (by unfold St.readE; rw [if_pos hd])
    rw [hd] at R
    clear hr0
    go_enter Try.func44, Try.ntmps44
    go_wp2_with (go_at_call 53; ((with_reducible refine R.out.mono ?_); rintro e w' ⟨rfl, rfl⟩))
    go_ret2
    exact ⟨none, (by rw [hE.out]; rfl), (fun e => (by rw [hE.out] at e; cases e)), rfl⟩
  | false =>
    rw [hd] at R
    cases hl : st.dir.look n.data.toList with
    | none =>
      have hE : Hid (st.readE n.data.toList = 4) := Lib.hid (by unfold St.readE; rw [hd, hl]; rfl)
      rw [hl] at H
      clear hr0
      go_enter Try.func44, Try.ntmps44
      go_wp2_with (first
        | (go_at_call 53; ((with_reducible refine R.out.mono ?_); rintro e w' ⟨rfl, rfl⟩))
        | (go_at_call 33; ((with_reducible refine H.out.mono ?_); rintro e w' ⟨rfl, rfl⟩)))
      go_ret2
      exact ⟨none, (by rw [hE.out]; rfl), (fun e => (by rw [hE.out] at e; cases e)), rfl⟩
    | some i =>
      have hE : Hid (st.readE n.data.toList = 0) := Lib.hid (by unfold St.readE; rw [hd, hl]; rfl)
      rw [hl] at H
      have hv2 : Hid (PtrH own (.pointer q) (st.dir.look n.data.toList)) := Lib.hid (by rw [hl]; rw [hl] at hv'; exact hv'.out)
      clear hv' hl
      go_enter Try.func44, Try.ntmps44
      go_wp2_with (first
        | (go_at_call 53; ((with_reducible refine R.out.mono ?_); rintro e w' ⟨rfl, rfl⟩))
        | (go_at_call 33; ((with_reducible refine H.out.mono ?_); rintro e w' ⟨rfl, rfl⟩)))
      go_ret2
      exact ⟨q, (by rw [hE.out]; rfl), fun _ => hv2.out, rfl⟩
set_option maxRecDepth 100000 in
set_option maxHeartbeats 1000000 in
theorem read_any {base p : Nat} {own : Own} {st : St} {w : World} (h : DiskAt base own p st w) (n : ByteArray) (hn : n.size ≤ maxLen) :
    Calls Try.prog 17 #[at0 p, .string n] w fun e w' => e = .returned (.tuple #[.string ⟨(st.readS n.data.toList).toArray⟩, .int .i64 (st.readE n.data.toList)]) ∧ w = w' := by
  have Fn := Lib.hid (find_any h n hn)
  obtain ⟨re, hre⟩ := named (st.readE n.data.toList)
  obtain ⟨rs, hrs⟩ := named (st.readS n.data.toList)
  rw [← hre.out, ← hrs.out]
  by_cases he : re = 0
  · subst he
    have hl : ∃ i, st.dir.look n.data.toList = some i ∧ st.down = false := by
      have := hre.out
      unfold St.readE at this
      split at this
      · cases this
      · rename_i hd
        split at this
        · rename_i h2
          obtain ⟨i, hi⟩ := Option.isSome_iff_exists.1 h2
          exact ⟨i, hi, by simpa using hd⟩
        · cases this
    obtain ⟨i, hl, hd⟩ := hl
    have hrs2 : rs = (fileOf st.files i).data := by rw [hrs.out]; unfold St.readS; rw [hd, hl]; rfl
    subst hrs2
    have hfile : Hid (∀ b, own b = some (.file i) → FileAt own b i (fileOf st.files i) w) := Lib.hid fun b hb => h.files b i hb
    have hl' := Lib.hid hl
    clear hl hd h hn
    go_enter Try.func17, Try.ntmps17
    go_wp2_with fail
    refine Fn.out.mono ?_
    rintro e w' ⟨q, rfl, hq, rfl⟩
    rw [← hre.out]
    have hq2 := hq hre.out.symm
    rw [hl'.out] at hq2
    obtain ⟨b, hqb, hb⟩ := hq2
    cases hqb
    obtain ⟨fp, fl, fc, f0, hfl, _, frow, _⟩ := file_cells (hfile.out b hb)
    rw [hfl] at frow
    have hcv := bytes_text frow
    rw [← hfl] at hcv
    clear hq hfl frow
    go_wp2
    go_ret2
    exact ⟨rfl, rfl⟩
  · have heb : (re == 0) = false := by simpa using he
    have hrs2 : rs = [] := by
      rw [hrs.out]; unfold St.readS
      split
      · rfl
      · rename_i hd
        cases hl : st.dir.look n.data.toList with
        | none => rfl
        | some i =>
          exfalso
          apply he
          rw [hre.out]; unfold St.readE; rw [if_neg hd, hl]; rfl
    subst hrs2
    clear h hn
    go_enter Try.func17, Try.ntmps17
    go_wp2_with fail
    refine Fn.out.mono ?_
    rintro e w' ⟨q, rfl, hq, rfl⟩
    rw [← hre.out]
    clear hq
    go_wp2
    go_ret2
    exact ⟨rfl, rfl⟩
end Go.Proofs.Ytheealfappjabaa
