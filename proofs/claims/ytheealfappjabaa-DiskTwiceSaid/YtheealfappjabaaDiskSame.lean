/-
  Two lists of the same names are the same (Same); two disks that tell the same are the same (same). No condition.
-/
import Derived.Test.YtheealfappjabaaDiskNames
import Derived.BigQuiet
import Derived.Deep.Cut
import Derived.Deep.DeepCutAuto
import Derived.Deep.QuietTactic
namespace Go.Proofs.Ytheealfappjabaa
open Go.RowKit Go.Maps
attribute [local go_sem] eq_file ne_file ne_disk ne_map
theorem NamesAt.few {B : Nat} {v : Value} {d : Dir} {w : World} (h : NamesAt B v d w) : d.length ≤ 9223372036854775807 := by
  rcases h.2 with ⟨_, hz⟩ | ⟨g, cap, cur, _, _, _, hnc, hcm, _⟩
  · omega
  · have : cap ≤ 9223372036854775807 := hcm
    omega
set_option maxRecDepth 100000 in
set_option maxHeartbeats 2000000 in
theorem same_names {B1 B2 : Nat} {v1 v2 : Value} {d1 d2 : Dir} {w : World} (h1 : NamesAt B1 v1 d1 w) (h2 : NamesAt B2 v2 d2 w) (he : d1.map (·.1) = d2.map (·.1)) :
    Calls Try.prog 51 #[v1, v2] w fun e w' => e = .returned (.bool true) ∧ Below w.heap.size w w' := by
  have hl : d1.length = d2.length := by have := congrArg List.length he; simpa using this
  have hfw := h1.few
  obtain ⟨a1, c1, rfl⟩ := h1.slice
  obtain ⟨a2, c2, rfl⟩ := h2.slice
  have h1 := Lib.hid h1
  have h2 := Lib.hid h2
  have he := Lib.hid he
  obtain ⟨n, hn⟩ := named d1.length
  have hn1 : d1.length = n := hn.out.symm
  have hn2 : d2.length = n := by rw [← hl]; exact hn1
  rw [hn1] at hfw
  rw [hn1, hn2]
  clear hl hn
  go_enter Try.func51, Try.ntmps51
  go_wp2_with fail
  go_loopw [5] (fun i wr => ∃ j : Nat, j ≤ n ∧ i = .int .i64 (j : Int) ∧ Below w.heap.size w wr) (fun i _ => n - (intOf i).toNat)
  case atStart => exact ⟨0, Nat.zero_le _, rfl, Below.refl _ _⟩
  case round =>
    obtain ⟨j, hj, rfl, hb⟩ := hrel
    have hb := Lib.hid hb
    by_cases hlt : j < n
    · obtain ⟨x1, hx1⟩ : ∃ x, d1[j]? = some x := ⟨_, List.getElem?_eq_getElem (by omega)⟩
      obtain ⟨x2, hx2⟩ : ∃ x, d2[j]? = some x := ⟨_, List.getElem?_eq_getElem (by omega)⟩
      have hx : x2.1 = x1.1 := by
        have e1 : (d1.map (·.1))[j]? = some x1.1 := by rw [List.getElem?_map, hx1]; rfl
        have e2 : (d2.map (·.1))[j]? = some x2.1 := by rw [List.getElem?_map, hx2]; rfl
        rw [he.out, e2] at e1
        simpa using e1
      obtain ⟨g1, r1, _, e1, _, _⟩ := (hn1 ▸ h1.out.below hb.out : NamesAt B1 (.slice a1 d1.length c1) d1 wr).at hx1
      obtain ⟨g2, r2, _, e2, _, _⟩ := (hn2 ▸ h2.out.below hb.out : NamesAt B2 (.slice a2 d2.length c2) d2 wr).at hx2
      rw [hx] at e2
      subst r1 r2
      obtain ⟨nm, hnm⟩ := named x1.1
      rw [← hnm.out] at e1 e2
      clear hx1 hx2 hx
      go_upto_region 6 with fail
      go_quiet (fail)
      go_wp2_with fail
      go_roundw
      case rel => exact ⟨j + 1, by omega, by go_num, below_drewN hb.out⟩
      case measure => simp [intOf]; omega
    · go_wp2_with fail
      go_returns
      exact ⟨rfl, hb.out⟩
end Go.Proofs.Ytheealfappjabaa
