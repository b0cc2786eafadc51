/-
  The contract of keys.next: the last byte is counted up. Condition: a text of 1 to 4096 bytes whose last one is not 255.
-/
import Derived.Test.YtpobfheioondaaaDoorKeysFirst
import Derived.BigRegion
namespace Go.Proofs.YtpobfheioondaaaDoor
open Go.RowKit
theorem slice_head (s : ByteArray) (l : List UInt8) (c : UInt8) (hs : s.data.toList = l ++ [c]) (u : World) :
    (Instr.slice 9 (.string s) none (some (.int .i64 (l.length : Int))) none).run Tryd.prog u = .ok (.string ⟨l.toArray⟩) u := by
  have hz : s.size = l.length + 1 := by rw [← size_len, hs]; simp
  rw [run_slice_string_to_if u 9 s .i64 _ Tryd.underlying9, if_pos ⟨by omega, by omega⟩]
  congr 2
  apply ByteArray.ext
  apply Array.toList_inj.1
  rw [ByteArray.data_extract, Array.toList_extract, hs]
  simp
theorem index_last (s : ByteArray) (l : List UInt8) (c : UInt8) (hs : s.data.toList = l ++ [c]) (u : World) :
    (Instr.index 9 (.string s) (.int .i64 (l.length : Int))).run Tryd.prog u = .ok (.int .u8 (c.toNat : Int)) u := by
  have hz : s.size = l.length + 1 := by rw [← size_len, hs]; simp
  rw [run_index_string u 9 s .i64 _ Tryd.underlying9, dif_pos ⟨by omega, by omega⟩]
  have e : ∀ h, s[(l.length : Int).toNat]'h = c := fun h => by
    have h2 : s.data.toList[l.length]? = some c := by rw [hs]; simp
    have h3 : s.data.toList[l.length]? = some s[l.length] := Lib.data_getElem? s l.length (by omega)
    exact Option.some.inj (h3.symm.trans h2)
  rw [e]
theorem text_at (x : Int) (y : UInt8) (hx : x = (y.toNat : Int)) (u : World) (g : Nat) (h0 : u.cell? ⟨g, 0, none⟩ = some (.int .u8 x)) :
    (convert 45 9 (.slice (some ⟨g, 0, none⟩) 1 1)).run Tryd.prog u = .ok (.string ⟨#[y]⟩) u := by
  subst hx
  refine run_convert_bytes_back u _ _ 5 ⟨g, 0, none⟩ 1 [y] Tryd.underlying45 Tryd.underlying5 Tryd.underlying9 ?_
  intro j hj
  have : j = 0 := by simpa using hj
  subst this
  exact h0
set_option maxHeartbeats 4000000 in
theorem next_any (s : ByteArray) (l : List UInt8) (c : UInt8) (hs : s.data.toList = l ++ [c]) (hc : c.toNat < 255) (hl : l.length ≤ 4096) (w : World) :
    Calls Tryd.prog 40 #[.string s] w fun e w' => e = .returned (.string ⟨(l ++ [c + 1]).toArray⟩) ∧ Below w.heap.size w w' := by
  have hz : s.size = l.length + 1 := by rw [← size_len, hs]; simp
  have f1 := slice_head s l c hs
  have f2 := index_last s l c hs
  have hc1 := Keys.add_one hc
  have f3 := text_at ((c.toNat : Int) + 1) (c + 1) (by omega)
  have f3' := text_at (((c.toNat : Int) + 1) % 256) (c + 1) (by omega)
  have hlast : (s.size : Int) - 1 = (l.length : Int) := by omega
  have hcat : (⟨l.toArray⟩ : ByteArray) ++ ⟨#[c + 1]⟩ = ⟨(l ++ [c + 1]).toArray⟩ := by
    apply ByteArray.ext; rw [ByteArray.data_append]; apply Array.toList_inj.1; simp
  rw [← hcat]
  have hn : (l.length : Int) ≤ 4096 := by omega
  have hA : (⟨l.toArray⟩ : ByteArray).size = l.length := by show l.toArray.size = _; simp
  have hD : (⟨#[c + 1]⟩ : ByteArray).size = 1 := rfl
  obtain ⟨n, hN⟩ := named l.length
  rw [← hN.out] at f1 f2 hlast hn hA
  obtain ⟨A, hAA⟩ := named (⟨l.toArray⟩ : ByteArray)
  rw [← hAA.out] at f1 hA ⊢
  obtain ⟨D, hDD⟩ := named (⟨#[c + 1]⟩ : ByteArray)
  rw [← hDD.out] at f3 f3' hD ⊢
  have hcl : (c.toNat : Int) < 255 := by omega
  have hsz : (s.size : Int) ≤ 4097 := by omega
  clear hz hcat hc1 hc hs hl
  go_enter Tryd.func40, Tryd.ntmps40
  go_wp2
  go_region
  all_goals go_wp2
  all_goals go_ret
  all_goals exact ⟨rfl, (below_alloc _ _).drew⟩
end Go.Proofs.YtpobfheioondaaaDoor
