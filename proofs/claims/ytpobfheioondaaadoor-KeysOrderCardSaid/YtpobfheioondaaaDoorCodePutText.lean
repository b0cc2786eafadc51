/-
  The contracts of code.PutText, of the document's own, and of code.PutField. Condition: a text of at most 2^31 bytes; the library's one variable holds some number.
-/
import Derived.Test.YtpobfheioondaaaDoorCodeOrd
import Derived.Deep.RegionWith
namespace Go.Proofs.YtpobfheioondaaaDoor
open Go.RowKit
theorem rep_any (t : ByteArray) (ht : t.size ≤ 2147483648) (m : Int) (w : World) (hm : w.cell? ⟨0, 0, none⟩ = some (.int .i64 m)) :
    Calls Tryd.prog 50 #[.string t, .string ⟨#[0]⟩, .string ⟨#[0, 255]⟩] w fun e w' => e = .returned (.string ⟨(Code.esc t.data.toList).toArray⟩) ∧ Below w.heap.size w w' := by
  have hc := Lib.countB_mul_le ⟨#[0]⟩ (by decide) t.size t (Nat.le_refl _)
  have h1 : (ByteArray.mk #[0]).size = 1 := rfl
  have h2 : (ByteArray.mk #[0, 255]).size = 2 := rfl
  have := Any.strings_ReplaceAll { Tryd.laysM155 with } Tryd.Builder_Extra_M155 t ⟨#[0]⟩ ⟨#[0, 255]⟩ m w (by omega) hm (by decide) (by rw [h1] at hc; rw [h2]; omega)
  refine Calls.mono this fun e w' ⟨he, hb⟩ => ⟨?_, hb⟩
  rw [he]
  show Ending.returned (.string ⟨(Lib.replaceAll t.data.toList [0] [0, 255]).toArray⟩) = _
  rw [Code.replaceAll_esc]
theorem below_after1 {w w' : World} {o : Obj} (h : Below (w.alloc o).drew.heap.size (w.alloc o).drew w') : Below w.heap.size w w' :=
  (below_alloc w o).drew.trans (h.mono (by show w.heap.size ≤ (w.alloc o).heap.size; simp))
theorem below_after2 {w w' : World} {o o' : Obj} (h : Below ((w.alloc o).alloc o').drew.heap.size ((w.alloc o).alloc o').drew w') : Below w.heap.size w w' :=
  ((below_alloc w o).alloc (by simp) o').drew.trans (h.mono (by show w.heap.size ≤ ((w.alloc o).alloc o').heap.size; simp; omega))
theorem two_text (x y : UInt8) (u : World) (g : Nat) (h0 : u.cell? ⟨g, 0, none⟩ = some (.int .u8 (x.toNat : Int))) (h1 : u.cell? ⟨g, 1, none⟩ = some (.int .u8 (y.toNat : Int))) :
    (convert 45 9 (.slice (some ⟨g, 0, none⟩) 2 2)).run Tryd.prog u = .ok (.string ⟨#[x, y]⟩) u := by
  have := run_convert_bytes_arg (P := Tryd.prog) u 45 5 Tryd.underlying45 Tryd.underlying5 g 0 2 2 [(x.toNat : Int), (y.toNat : Int)] rfl (by
    intro i hi
    rcases (show i = 0 ∨ i = 1 by omega) with rfl | rfl
    · exact h0
    · exact h1) 9 Tryd.underlying9
  rw [this]
  congr 2
  simp [strOfNums]
set_option maxRecDepth 100000 in
set_option maxHeartbeats 4000000 in
theorem puttext_any (t : ByteArray) (ht : t.size ≤ 2147483648) (m : Int) (w : World) (hm : w.cell? ⟨0, 0, none⟩ = some (.int .i64 m)) :
    Calls Tryd.prog 43 #[.string t] w fun e w' => e = .returned (.string ⟨(Code.txt t.data.toList).toArray⟩) ∧ Below w.heap.size w w' := by
  have hg := World.block_lt_of_cell? _ _ hm
  have hm1 : Hid (∀ o, (w.alloc o).drew.cell? ⟨0, 0, none⟩ = some (.int .i64 m)) := Lib.hid fun o => (World.cell?_alloc_lt _ _ _ hg).trans hm
  have hm2 : Hid (∀ o o', ((w.alloc o).alloc o').drew.cell? ⟨0, 0, none⟩ = some (.int .i64 m)) := Lib.hid fun o o' => (World.cell?_alloc_lt _ _ _ (by rw [World.size_alloc]; exact Nat.lt_succ_of_lt hg)).trans (hm1.out o)
  have R := fun (u : World) (h : u.cell? ⟨0, 0, none⟩ = some (.int .i64 m)) => rep_any t ht m u h
  have hel := Code.esc_len t.data.toList
  have htl : t.data.toList.length = t.size := by simp
  unfold Code.txt
  obtain ⟨E, hE⟩ := named (Code.esc t.data.toList)
  rw [← hE.out] at R hel ⊢
  have hel2 : E.length + 2 ≤ 4294967298 := by omega
  have RR := Lib.hid R
  clear R hel htl
  have k1 : ∀ (u : World) (g : Nat), u.cell? ⟨g, 0, none⟩ = some (.int .u8 0) → u.cell? ⟨g, 1, none⟩ = some (.int .u8 255) → (convert 45 9 (.slice (some ⟨g, 0, none⟩) 2 2)).run Tryd.prog u = .ok (.string ⟨#[0, 255]⟩) u := fun u g => two_text 0 255 u g
  have k2 : ∀ (u : World) (g : Nat), u.cell? ⟨g, 0, none⟩ = some (.int .u8 0) → u.cell? ⟨g, 1, none⟩ = some (.int .u8 1) → (convert 45 9 (.slice (some ⟨g, 0, none⟩) 2 2)).run Tryd.prog u = .ok (.string ⟨#[0, 1]⟩) u := fun u g => two_text 0 1 u g
  go_enter Tryd.func43, Tryd.ntmps43
  go_wp2
  go_region_with
    (first
      | (go_at_call 50; refine (RR.out _ ?_).mono ?_; (first | with_reducible exact hm1.out _ | with_reducible exact hm2.out _ _); rintro e w' ⟨rfl, hb⟩; have hbw : Hid (Below w.heap.size w w') := Lib.hid (by first | with_reducible exact below_after1 hb | with_reducible exact below_after2 hb); have b0 := hb.cell (p := ⟨w.heap.size, 0, none⟩) (by first | (simp; done) | (simp; omega)); have b1 := hb.cell (p := ⟨w.heap.size, 1, none⟩) (by first | (simp; done) | (simp; omega)); (try have b2 := hb.cell (p := ⟨w.heap.size + 1, 0, none⟩) (by first | (simp; done) | (simp; omega))); (try have b3 := hb.cell (p := ⟨w.heap.size + 1, 1, none⟩) (by first | (simp; done) | (simp; omega)))))
  all_goals go_wp2
  all_goals go_ret
  all_goals refine ⟨by first | rfl | congr 1, ?_⟩
  all_goals first | exact hbw.out | exact hbw.out.drew | exact hbw.out.alloc hbw.out.size _ | exact (hbw.out.alloc hbw.out.size _).drew
end Go.Proofs.YtpobfheioondaaaDoor
