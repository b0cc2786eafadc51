/-
  The contract of what all steps have in common, for any check that only reads, and any thing to do. Condition: fewer than 2^40 steps.
-/
import Derived.Test.YtheealfappjabaaDiskChange
import Derived.Shelf.Abstract
namespace Go.Proofs.Ytheealfappjabaa
open Go.RowKit Go.Maps Go.WideMaps
/-- A scalar of the disk's is stored: all else stands. -/
theorem DiskAt.put {base p : Nat} {own : Own} {st st' : St} {w : World} (h : DiskAt base own p st w) (k : Nat) (v : Value) (hd : st'.dir = st.dir) (hk : st'.kept = st.kept) (hw : st'.wait = st.wait) (hf : st'.files = st.files)
    (hc : ∀ nb kb pv, diskCells st' nb kb pv = (diskCells st nb kb pv).setIfInBounds k v) : DiskAt base own p st' (w.setCell ⟨p, k, none⟩ v) := by
  obtain ⟨nb, kb, pv, o1, o2, o3, hp, hn, hq, hwt⟩ := h.disk
  have keep : ∀ b r, own b = some r → r ≠ .disk → (w.setCell ⟨p, k, none⟩ v).heap[b]? = w.heap[b]? := fun b r hb hr => heap_setCell_other _ _ _ _ (fun e => by simp only at e; rw [e, o1] at hb; cases hb; exact hr rfl)
  refine ⟨fun b hb => ⟨(h.lo b hb).1, by simpa [World.setCell] using (h.lo b hb).2⟩, h.inj, by rw [hf]; exact h.few, ⟨nb, kb, pv, o1, o2, o3, ?_, by rw [hd]; exact map_keep hn (.refl _) (keep nb _ o2 (by simp)), by rw [hk]; exact map_keep hq (.refl _) (keep kb _ o3 (by simp)), by rw [hw]; exact wait_keep hwt (.refl _) fun g hg => ⟨keep g _ hg (by simp), hg⟩⟩, ?_⟩
  · rw [hc]; exact heap_setCell_same _ _ _ _ _ _ hp
  · intro b i hb
    rw [hf]
    exact file_keep (h.files b i hb) (keep b _ hb (by simp)) fun g hg => ⟨keep g _ hg (by simp), hg⟩
theorem DiskAt.frozen {base p : Nat} {own : Own} {st : St} {w : World} (h : DiskAt base own p st w) (k : Nat) : w.frozen? ⟨p, k, none⟩ = false := by
  obtain ⟨nb, kb, pv, _, _, _, hp, _⟩ := h.disk
  exact frozen_of_row _ _ _ _ _ hp
theorem DiskAt.grow_put {base p : Nat} {own : Own} {st : St} {w : World} (h : DiskAt base own p st w) (k : Nat) (v : Value) : Grow own own w (w.setCell ⟨p, k, none⟩ v) := by
  obtain ⟨nb, kb, pv, o1, _⟩ := h.disk
  exact Grow.of_but ((But.refl p w).setCell rfl v) (by simp [o1])
/-- An answer, and nothing but the count of draws has turned. -/
def Tells (r : Value) (w : World) (e : Ending) (w' : World) : Prop := e = .returned r ∧ ∃ k, w' = w.drewN k
theorem grow_drew (own : Own) (w : World) (k : Nat) : Grow own own w (w.drewN k) := ⟨rfl, rfl, rfl, Nat.le_refl _, fun _ _ _ => rfl, fun _ _ h => h⟩
/-- What a check is: it answers c, and turns nothing. -/
def Checks (F : Nat) (caps : Array Value) (c : Int) (w : World) : Prop := Calls Try.prog F caps w (Tells (.int .i64 c) w)
theorem DiskAt.fuse {base p : Nat} {own : Own} {st : St} {w : World} (h : DiskAt base own p st w) : w.cell? ⟨p, 6, none⟩ = some (.int .i64 st.fuse) := by
  obtain ⟨nb, kb, pv, _, _, _, hp, _⟩ := h.disk
  exact (disk_cells hp).2.2.2.2.2.2.1
theorem DiskAt.steps {base p : Nat} {own : Own} {st : St} {w : World} (h : DiskAt base own p st w) : w.cell? ⟨p, 1, none⟩ = some (.int .i64 st.steps) := by
  obtain ⟨nb, kb, pv, _, _, _, hp, _⟩ := h.disk
  exact (disk_cells hp).2.1
set_option maxRecDepth 100000 in
set_option maxHeartbeats 1000000 in
theorem step_down {base p : Nat} {own : Own} {st : St} {w : World} (h : DiskAt base own p st w) (hd : st.down = true) (u v : Value) :
    Calls Try.prog 25 #[at0 p, u, v] w fun e w' => e = .returned (.int .i64 9) ∧ w = w' := by
  have R := ready_any h
  rw [hd] at R
  go_enter Try.func25, Try.ntmps25
  go_wp2_with (go_at_call 53; ((with_reducible refine R.mono ?_); rintro e w' ⟨rfl, rfl⟩))
  go_ret
  exact ⟨rfl, rfl⟩
set_option maxRecDepth 100000 in
set_option maxHeartbeats 1000000 in
theorem step_no {base p : Nat} {own : Own} {st : St} {w : World} (h : DiskAt base own p st w) (hd : st.down = false) (F : Nat) (hE : ∀ (args : Array Value) (w : World), (callFunc F args).run Try.prog w = .ok (.enter F args) w) (caps : Array Value) (v : Value)
    (c : Int) (hc : c ≠ 0) (hF : Checks F caps c w) :
    Calls Try.prog 25 #[at0 p, .func (.func F) #[] caps, v] w (Tells (.int .i64 c) w) := by
  have R := ready_any h
  rw [hd] at R
  unfold Checks at hF
  have hcb : (c == 0) = false := by simpa using hc
  go_enter Try.func25, Try.ntmps25
  go_wp2_with (go_at_call 53; ((with_reducible refine R.mono ?_); rintro e w' ⟨rfl, rfl⟩))
  refine hF.mono ?_
  rintro e u ⟨rfl, k, rfl⟩
  go_wp2
  go_ret
  exact ⟨rfl, k, rfl⟩
set_option maxRecDepth 100000 in
set_option maxHeartbeats 1000000 in
theorem step_power {base p : Nat} {own : Own} {st : St} {w : World} (h : DiskAt base own p st w) (hd : st.down = false) (hf : st.fuse = 1) (F : Nat) (hE : ∀ (args : Array Value) (w : World), (callFunc F args).run Try.prog w = .ok (.enter F args) w) (caps : Array Value) (v : Value)
    (hF : Checks F caps 0 w) :
    Calls Try.prog 25 #[at0 p, .func (.func F) #[] caps, v] w (Did base own p { st with down := true } (.int .i64 9) w) := by
  have R := ready_any h
  rw [hd] at R
  unfold Checks at hF
  have c6 := h.fuse
  rw [hf] at c6
  have f7 := h.frozen 7
  obtain ⟨nb, kb, pv, _, _, _, hp, _⟩ := h.disk
  have c7 := (disk_cells hp).2.2.2.2.2.2.2
  have c6' : ∀ k, (w.drewN k).cell? ⟨p, 6, none⟩ = some (.int .i64 1) := fun _ => c6
  have c7' : ∀ k, (w.drewN k).cell? ⟨p, 7, none⟩ = some (.bool st.down) := fun _ => c7
  have f7' : ∀ k, (w.drewN k).frozen? ⟨p, 7, none⟩ = false := fun _ => f7
  clear hp
  go_enter Try.func25, Try.ntmps25
  go_wp2_with (go_at_call 53; ((with_reducible refine R.mono ?_); rintro e w' ⟨rfl, rfl⟩))
  refine hF.mono ?_
  rintro e u ⟨rfl, k, rfl⟩
  go_wp2
  go_returns
  exact ⟨own, rfl, (h.same (w' := w.drewN k) rfl).put 7 (.bool true) rfl rfl rfl rfl (fun _ _ _ => rfl), (grow_drew own w k).trans ((h.same (w' := w.drewN k) rfl).grow_put 7 _)⟩
set_option maxRecDepth 100000 in
set_option maxHeartbeats 1000000 in
theorem step_ok0 {base p : Nat} {own : Own} {st : St} {w : World} (h : DiskAt base own p st w) (hd : st.down = false) (hf : st.fuse = 0) (F G : Nat) (hE : ∀ (args : Array Value) (w : World), (callFunc F args).run Try.prog w = .ok (.enter F args) w)
    (hE2 : ∀ (args : Array Value) (w : World), (callFunc G args).run Try.prog w = .ok (.enter G args) w) (caps caps2 : Array Value) (hF : Checks F caps 0 w) (f : St → St) (hs0 : 0 ≤ (f st.fused).steps) (hs1 : (f st.fused).steps ≤ 1099511627776)
    (hG : ∀ u, DiskAt base own p st.fused u → But p w u → Calls Try.prog G caps2 u (Did base own p (f st.fused) (.tuple #[]) u)) :
    Calls Try.prog 25 #[at0 p, .func (.func F) #[] caps, .func (.func G) #[] caps2] w (Did base own p { f st.fused with steps := (f st.fused).steps + 1 } (.int .i64 0) w) := by
  have R := ready_any h
  rw [hd] at R
  unfold Checks at hF
  have c6 := h.fuse
  rw [hf] at c6
  have c6' : ∀ k, (w.drewN k).cell? ⟨p, 6, none⟩ = some (.int .i64 0) := fun _ => c6
  have f6' : ∀ k, (w.drewN k).frozen? ⟨p, 6, none⟩ = false := fun _ => h.frozen 6
  have hG' := Lib.hid hG
  have hs' := Lib.hid hs0
  clear hG
  go_enter Try.func25, Try.ntmps25
  go_wp2_with (go_at_call 53; ((with_reducible refine R.mono ?_); rintro e w' ⟨rfl, rfl⟩))
  refine hF.mono ?_
  rintro e u ⟨rfl, k, rfl⟩
  have d1 := Lib.hid (h.same (w' := w.drewN k) rfl)
  go_wp2_with fail
  have d2 : Hid (DiskAt base own p st.fused (w.drewN k)) := Lib.hid (by have : st.fused = st := by unfold St.fused; rw [if_pos hf, ← hf]
                                                                        rw [this]; exact d1.out)
  have b2 : Hid (But p w (w.drewN k)) := Lib.hid (But.refl p w).drewN
  have g2 : Hid (Grow own own w (w.drewN k)) := Lib.hid (grow_drew own w k)
  refine (hG'.out _ d2.out b2.out).mono ?_
  rintro e w3 ⟨own', rfl, d3, g3⟩
  have c1 := d3.steps
  have f1 := d3.frozen 1
  have d3' := Lib.hid d3
  have g3' := Lib.hid g3
  clear d3 g3
  go_wp2
  go_ret
  exact ⟨own', rfl, d3'.out.put 1 (.int .i64 ((f st.fused).steps + 1)) rfl rfl rfl rfl (fun _ _ _ => rfl), (g2.out.trans g3'.out).trans (d3'.out.grow_put 1 _)⟩
set_option maxRecDepth 100000 in
set_option maxHeartbeats 1000000 in
theorem step_ok2 {base p : Nat} {own : Own} {st : St} {w : World} (h : DiskAt base own p st w) (hd : st.down = false) (hf : 2 ≤ st.fuse) (hf2 : st.fuse ≤ 9223372036854775807) (F G : Nat) (hE : ∀ (args : Array Value) (w : World), (callFunc F args).run Try.prog w = .ok (.enter F args) w)
    (hE2 : ∀ (args : Array Value) (w : World), (callFunc G args).run Try.prog w = .ok (.enter G args) w) (caps caps2 : Array Value) (hF : Checks F caps 0 w) (f : St → St) (hs0 : 0 ≤ (f st.fused).steps) (hs1 : (f st.fused).steps ≤ 1099511627776)
    (hG : ∀ u, DiskAt base own p st.fused u → But p w u → Calls Try.prog G caps2 u (Did base own p (f st.fused) (.tuple #[]) u)) :
    Calls Try.prog 25 #[at0 p, .func (.func F) #[] caps, .func (.func G) #[] caps2] w (Did base own p { f st.fused with steps := (f st.fused).steps + 1 } (.int .i64 0) w) := by
  have R := ready_any h
  rw [hd] at R
  unfold Checks at hF
  have c6 := h.fuse
  have n0 : (st.fuse == 0) = false := by rw [beq_eq_false_iff_ne]; omega
  have n1 : (st.fuse == 1) = false := by rw [beq_eq_false_iff_ne]; omega
  have c6' : ∀ k, (w.drewN k).cell? ⟨p, 6, none⟩ = some (.int .i64 st.fuse) := fun _ => c6
  have f6' : ∀ k, (w.drewN k).frozen? ⟨p, 6, none⟩ = false := fun _ => h.frozen 6
  have hG' := Lib.hid hG
  have hs' := Lib.hid hs0
  clear hG
  go_enter Try.func25, Try.ntmps25
  go_wp2_with (go_at_call 53; ((with_reducible refine R.mono ?_); rintro e w' ⟨rfl, rfl⟩))
  refine hF.mono ?_
  rintro e u ⟨rfl, k, rfl⟩
  have d1 := Lib.hid (h.same (w' := w.drewN k) rfl)
  go_wp2_with fail
  have e2 : st.fused = { st with fuse := st.fuse - 1 } := by unfold St.fused; rw [if_neg (by omega)]
  have d2 : Hid (DiskAt base own p st.fused ((w.drewN k).setCell ⟨p, 6, none⟩ (.int .i64 (st.fuse - 1)))) := Lib.hid (d1.out.put 6 _ (by rw [e2]) (by rw [e2]) (by rw [e2]) (by rw [e2]) (fun _ _ _ => by rw [e2]; rfl))
  have b2 : Hid (But p w ((w.drewN k).setCell ⟨p, 6, none⟩ (.int .i64 (st.fuse - 1)))) := Lib.hid ((But.refl p w).drewN.setCell rfl _)
  have g2 : Hid (Grow own own w ((w.drewN k).setCell ⟨p, 6, none⟩ (.int .i64 (st.fuse - 1)))) := Lib.hid ((grow_drew own w k).trans (d1.out.grow_put 6 _))
  clear e2
  refine (hG'.out _ d2.out b2.out).mono ?_
  rintro e w3 ⟨own', rfl, d3, g3⟩
  have c1 := d3.steps
  have f1 := d3.frozen 1
  have d3' := Lib.hid d3
  have g3' := Lib.hid g3
  clear d3 g3
  go_wp2
  go_ret
  exact ⟨own', rfl, d3'.out.put 1 (.int .i64 ((f st.fused).steps + 1)) rfl rfl rfl rfl (fun _ _ _ => rfl), (g2.out.trans g3'.out).trans (d3'.out.grow_put 1 _)⟩
/-- **What all steps have in common.** -/
theorem step_any {base p : Nat} {own : Own} {st : St} {w : World} (h : DiskAt base own p st w) (hf0 : 0 ≤ st.fuse) (hf1 : st.fuse ≤ 9223372036854775807) (F G : Nat) (hE : ∀ (args : Array Value) (w : World), (callFunc F args).run Try.prog w = .ok (.enter F args) w)
    (hE2 : ∀ (args : Array Value) (w : World), (callFunc G args).run Try.prog w = .ok (.enter G args) w) (caps caps2 : Array Value) (c : Int) (hF : st.down = false → Checks F caps c w) (f : St → St) (hs0 : 0 ≤ (f st.fused).steps) (hs1 : (f st.fused).steps ≤ 1099511627776)
    (hG : c = 0 → ∀ u, DiskAt base own p st.fused u → But p w u → Calls Try.prog G caps2 u (Did base own p (f st.fused) (.tuple #[]) u)) :
    Calls Try.prog 25 #[at0 p, .func (.func F) #[] caps, .func (.func G) #[] caps2] w (Did base own p (st.stepS c f) (.int .i64 (st.stepE c)) w) := by
  unfold St.stepS St.stepE
  by_cases hd : st.down = true
  · rw [if_pos hd, if_pos hd]
    exact (step_down h hd _ _).mono fun e w' ⟨he, hw⟩ => ⟨own, he, hw ▸ h, hw ▸ Grow.refl own w⟩
  · have hd' : st.down = false := by simpa using hd
    rw [if_neg hd, if_neg hd]
    by_cases hc : c = 0
    · subst hc
      simp only [ne_eq, not_true_eq_false, if_false]
      by_cases h1 : st.fuse = 1
      · rw [if_pos h1, if_pos h1]
        exact step_power h hd' h1 F hE caps _ (hF hd')
      · rw [if_neg h1, if_neg h1]
        by_cases h0 : st.fuse = 0
        · exact step_ok0 h hd' h0 F G hE hE2 caps caps2 (hF hd') f hs0 hs1 (hG rfl)
        · exact step_ok2 h hd' (by omega) hf1 F G hE hE2 caps caps2 (hF hd') f hs0 hs1 (hG rfl)
    · rw [if_pos hc, if_pos hc]
      exact (step_no h hd' F hE caps _ c hc (hF hd')).mono fun e w' ⟨he, k, hw⟩ => ⟨own, he, hw ▸ h.same rfl, hw ▸ grow_drew own w k⟩
end Go.Proofs.Ytheealfappjabaa
