/-
  The closures' contracts: what each step checks. Condition of names: at most 2^47 bytes.
-/
import Derived.Test.YtheealfappjabaaDiskStep
import Derived.Test.YtheealfappjabaaDiskValid
namespace Go.Proofs.Ytheealfappjabaa
open Go.RowKit Go.Maps Go.WideMaps
attribute [local go_sem] eq_file ne_file ne_disk ne_map
theorem drewN_two (w : World) (a b : Nat) : (w.drewN a).drewN b = w.drewN (a + b) := by simp [World.drewN, Nat.add_assoc]
/-- A look-up at the directory, in whatever world of the same heap. -/
theorem look_drew {own : Own} {b : Nat} {d : Dir} {w : World} (h : MapAt own b d w) (s : ByteArray) (hs : s.size ≤ maxLen) :
    ∃ v, (∀ k, (Instr.lookup 49 (.map (some b)) (.string s) false).run Try.prog (w.drewN k) = .ok v (w.drewN k)) ∧ (Instr.lookup 49 (.map (some b)) (.string s) false).run Try.prog w = .ok v w ∧ PtrH own v (d.look s.data.toList) := by
  obtain ⟨v, h1, h2⟩ := look_run h s hs
  exact ⟨v, fun k => h1 _ rfl, h1 _ rfl, h2⟩
set_option maxRecDepth 100000 in
set_option maxHeartbeats 1000000 in
theorem append_check {base p bd bn bx : Nat} {own : Own} {st : St} {w : World} (h : DiskAt base own p st w) (n x : ByteArray) (hn : n.size ≤ maxLen) (hx : x.size ≤ 140737488355328) (hu0 : 0 ≤ st.used) (hu1 : st.used ≤ 2199023255552)
    (hd0 : w.cell? ⟨bd, 0, none⟩ = some (at0 p)) (hn0 : w.cell? ⟨bn, 0, none⟩ = some (.string n)) (hx0 : w.cell? ⟨bx, 0, none⟩ = some (.string x)) :
    Checks 30 #[at0 bd, at0 bn, at0 bx] (st.appendC n.data.toList x.data.toList) w := by
  obtain ⟨nb, kb, pv, _, o2, _, hp, hm, _⟩ := h.disk
  obtain ⟨c0, _, c2, c3, _⟩ := disk_cells hp
  obtain ⟨v, hr, hr0, hv⟩ := look_drew hm n hn
  have exs : (x.data.toList.length : Int) = (x.size : Int) := by simp
  unfold Checks St.appendC
  clear hp hm hn
  cases hl : st.dir.look n.data.toList with
  | none =>
    rw [hl] at hv
    obtain rfl : v = .pointer none := hv
    clear exs
    go_enter Try.func30, Try.ntmps30
    go_wp2
    go_quiet (fail)
    go_wp2
    go_returns
    exact ⟨rfl, _, rfl⟩
  | some i =>
    rw [hl] at hv
    obtain ⟨fb, rfl, hfb⟩ := hv
    simp only [exs]
    have hs1 := IntWalk.i64_in (st.used + x.size) ⟨by omega, by omega⟩
    by_cases hgt : st.used + x.size > st.room
    · rw [if_pos hgt]
      have hd : decide (st.room < st.used + (x.size : Int)) = true := by simpa using hgt
      clear exs
      go_enter Try.func30, Try.ntmps30
      go_wp2
      go_quiet (fail)
      go_wp2
      go_quiet (fail)
      go_wp2
      go_returns
      exact ⟨rfl, _, drewN_two _ _ _⟩
    · rw [if_neg hgt]
      have hd : decide (st.room < st.used + (x.size : Int)) = false := by simpa using hgt
      clear exs
      go_enter Try.func30, Try.ntmps30
      go_wp2
      go_quiet (fail)
      go_wp2
      go_quiet (fail)
      go_wp2
      go_returns
      exact ⟨rfl, _, drewN_two _ _ _⟩
set_option maxRecDepth 100000 in
set_option maxHeartbeats 1000000 in
theorem sync_check {base p bd bn : Nat} {own : Own} {st : St} {w : World} (h : DiskAt base own p st w) (n : ByteArray) (hn : n.size ≤ maxLen)
    (hd0 : w.cell? ⟨bd, 0, none⟩ = some (at0 p)) (hn0 : w.cell? ⟨bn, 0, none⟩ = some (.string n)) :
    Checks 32 #[at0 bd, at0 bn] (st.hasC n.data.toList) w := by
  obtain ⟨nb, kb, pv, _, o2, _, hp, hm, _⟩ := h.disk
  obtain ⟨_, _, c2, _, _⟩ := disk_cells hp
  have H : Hid _ := Lib.hid (has_any (map_keep hm (.refl _) rfl : MapAt own nb st.dir w.drew) n hn)
  unfold Checks St.hasC
  clear hp hm hn
  obtain ⟨r, hr⟩ := named (if (st.dir.look n.data.toList).isSome = true then (0 : Int) else 4)
  rw [← hr.out] at H
  rw [← hr.out]
  go_enter Try.func32, Try.ntmps32
  go_wp2
  go_still_tail 5, (by kernel_rfl)
  change wpList _ _ _ _ _ w.drew
  go_wp2_with (go_at_call 33; ((with_reducible refine H.out.mono ?_); rintro e w' ⟨rfl, rfl⟩))
  go_returns
  exact ⟨rfl, 1, rfl⟩
set_option maxRecDepth 100000 in
set_option maxHeartbeats 1000000 in
theorem remove_check {base p bd bn : Nat} {own : Own} {st : St} {w : World} (h : DiskAt base own p st w) (n : ByteArray) (hn : n.size ≤ maxLen)
    (hd0 : w.cell? ⟨bd, 0, none⟩ = some (at0 p)) (hn0 : w.cell? ⟨bn, 0, none⟩ = some (.string n)) :
    Checks 54 #[at0 bd, at0 bn] (st.hasC n.data.toList) w := by
  obtain ⟨nb, kb, pv, _, o2, _, hp, hm, _⟩ := h.disk
  obtain ⟨_, _, c2, _, _⟩ := disk_cells hp
  have H : Hid _ := Lib.hid (has_any (map_keep hm (.refl _) rfl : MapAt own nb st.dir w.drew) n hn)
  unfold Checks St.hasC
  clear hp hm hn
  obtain ⟨r, hr⟩ := named (if (st.dir.look n.data.toList).isSome = true then (0 : Int) else 4)
  rw [← hr.out] at H
  rw [← hr.out]
  go_enter Try.func54, Try.ntmps54
  go_wp2
  go_still_tail 5, (by kernel_rfl)
  change wpList _ _ _ _ _ w.drew
  go_wp2_with (go_at_call 33; ((with_reducible refine H.out.mono ?_); rintro e w' ⟨rfl, rfl⟩))
  go_returns
  exact ⟨rfl, 1, rfl⟩
set_option maxRecDepth 100000 in
set_option maxHeartbeats 1000000 in
theorem syncDir_check (w : World) : Checks 35 #[] 0 w := by
  unfold Checks
  go_enter Try.func35, Try.ntmps35
  go_wp2
  go_returns
  exact ⟨rfl, 0, rfl⟩
set_option maxRecDepth 100000 in
set_option maxHeartbeats 1000000 in
theorem create_check {base p bd bn : Nat} {own : Own} {st : St} {w : World} (h : DiskAt base own p st w) (n : ByteArray) (hn : n.size ≤ maxLen)
    (hd0 : w.cell? ⟨bd, 0, none⟩ = some (at0 p)) (hn0 : w.cell? ⟨bn, 0, none⟩ = some (.string n)) :
    Checks 26 #[at0 bn, at0 bd] (st.createC n.data.toList) w := by
  obtain ⟨nb, kb, pv, _, o2, _, hp, hm, _⟩ := h.disk
  obtain ⟨_, _, c2, _, _⟩ := disk_cells hp
  obtain ⟨v, hr, hr0, hv⟩ := look_drew hm n hn
  have V := Lib.hid (valid_any n hn w)
  unfold Checks St.createC
  clear hp hn
  cases hva : validN n.data.toList with
  | false =>
    rw [hva] at V
    go_enter Try.func26, Try.ntmps26
    go_wp2_with (go_at_call 27; ((with_reducible refine V.out.mono ?_); rintro e w' ⟨rfl, rfl⟩))
    go_returns
    exact ⟨rfl, 0, rfl⟩
  | true =>
    rw [hva] at V
    cases hl : st.dir.look n.data.toList with
    | some i =>
      rw [hl] at hv
      obtain ⟨fb, rfl, hfb⟩ := hv
      clear hm
      go_enter Try.func26, Try.ntmps26
      go_wp2_with (go_at_call 27; ((with_reducible refine V.out.mono ?_); rintro e w' ⟨rfl, rfl⟩))
      go_quiet (fail)
      go_wp2
      go_returns
      exact ⟨rfl, _, rfl⟩
    | none =>
      rw [hl] at hv
      obtain rfl : v = .pointer none := hv
      have hm' := Lib.hid hm
      clear hm
      by_cases hge : 4096 ≤ st.dir.length
      · have hd : decide ((4096 : Int) ≤ (st.dir.length : Int)) = true := by rw [decide_eq_true_eq]; omega
        have er : (if true = false then (2 : Int) else if (none : Option Nat).isSome = true then 5 else if 4096 ≤ st.dir.length then 8 else 0) = 8 := by rw [if_pos hge]; rfl
        rw [er]
        clear er
        go_enter Try.func26, Try.ntmps26
        go_wp2_with (go_at_call 27; ((with_reducible refine V.out.mono ?_); rintro e w' ⟨rfl, rfl⟩))
        go_quiet (fail)
        go_wp2_with (at_len; refine wpList_len_own _ rfl _ 49 rfl 9 55 Try.underlying49 _ nb _ (toD st.dir) rfl (by exact hm'.out) ?_; rw [toD_size])
        go_returns
        exact ⟨rfl, _, rfl⟩
      · have hd : decide ((4096 : Int) ≤ (st.dir.length : Int)) = false := by rw [decide_eq_false_iff_not]; omega
        have er : (if true = false then (2 : Int) else if (none : Option Nat).isSome = true then 5 else if 4096 ≤ st.dir.length then 8 else 0) = 0 := by rw [if_neg hge]; rfl
        rw [er]
        clear er
        go_enter Try.func26, Try.ntmps26
        go_wp2_with (go_at_call 27; ((with_reducible refine V.out.mono ?_); rintro e w' ⟨rfl, rfl⟩))
        go_quiet (fail)
        go_wp2_with (at_len; refine wpList_len_own _ rfl _ 49 rfl 9 55 Try.underlying49 _ nb _ (toD st.dir) rfl (by exact hm'.out) ?_; rw [toD_size])
        go_returns
        exact ⟨rfl, _, rfl⟩
set_option maxRecDepth 100000 in
set_option maxHeartbeats 1000000 in
theorem rename_check {base p bd bn bx : Nat} {own : Own} {st : St} {w : World} (h : DiskAt base own p st w) (n m : ByteArray) (hn : n.size ≤ maxLen) (hm0 : m.size ≤ maxLen)
    (hd0 : w.cell? ⟨bd, 0, none⟩ = some (at0 p)) (hn0 : w.cell? ⟨bn, 0, none⟩ = some (.string n)) (hx0 : w.cell? ⟨bx, 0, none⟩ = some (.string m)) :
    Checks 45 #[at0 bd, at0 bn, at0 bx] (st.renameC n.data.toList m.data.toList) w := by
  obtain ⟨nb, kb, pv, _, o2, _, hp, hm, _⟩ := h.disk
  obtain ⟨_, _, c2, _, _⟩ := disk_cells hp
  obtain ⟨v, hr, hr0, hv⟩ := look_drew hm n hn
  have V := fun k => Lib.hid (valid_any m hm0 (w.drewN k))
  unfold Checks St.renameC
  clear hp hm hn hm0
  cases hl : st.dir.look n.data.toList with
  | none =>
    rw [hl] at hv
    obtain rfl : v = .pointer none := hv
    go_enter Try.func45, Try.ntmps45
    go_wp2
    go_quiet (fail)
    go_wp2
    go_returns
    exact ⟨rfl, _, rfl⟩
  | some i =>
    rw [hl] at hv
    obtain ⟨fb, rfl, hfb⟩ := hv
    cases hva : validN m.data.toList
    all_goals
      rw [hva] at V
      go_enter Try.func45, Try.ntmps45
      go_wp2
      go_quiet (fail)
      go_wp2_with (go_at_call 27; ((with_reducible refine (V _).out.mono ?_); rintro e w' ⟨rfl, rfl⟩))
      go_returns
      exact ⟨rfl, _, rfl⟩
end Go.Proofs.Ytheealfappjabaa
