/-
  Operations on texts, as the walks of regions that draw their order want them: one equation for every world. No condition.
-/
import Derived.Test.YtnmlifagchdphaaKit
import Derived.Test.YtnmlifagchdphaaRowsOf
import Derived.Handy
import Derived.Lib.IndexBytes
namespace Go.Proofs.Ytnmlifagchdphaa
set_option maxRecDepth 100000
open Go.RowKit
theorem toLs (s : ByteArray) : s.toList.length = s.size := by rw [ByteArray.toList_eq]; simp
theorem idx_text (s : ByteArray) (n : Nat) (c : UInt8) (h : s.toList[n]? = some c) (x : Int) (hx : x = (n : Int)) (u : World) :
    (Instr.index 9 (.string s) (.int .i64 x)).run Try.prog u = .ok (.int .u8 (c.toNat : Int)) u := by
  subst hx
  rw [ByteArray.toList_eq] at h
  have hl : n < s.data.toList.length := (List.getElem?_eq_some_iff.1 h).1
  have hl2 : n < s.size := by simpa using hl
  rw [run_index_string u 9 s .i64 _ Try.underlying9, dif_pos ⟨by omega, by omega⟩]
  have e : ∀ h', s[(n : Int).toNat]'h' = c := fun h' => by
    have h3 : s.data.toList[n]? = some s[n] := Lib.data_getElem? s n (by omega)
    exact Option.some.inj (h3.symm.trans h)
  rw [e]
theorem extract_from (s : ByteArray) (n : Nat) : s.extract n s.size = ⟨(s.toList.drop n).toArray⟩ := by
  apply ByteArray.ext; apply Array.toList_inj.1
  rw [ByteArray.data_extract, Array.toList_extract, List.extract_eq_take_drop, ByteArray.toList_eq]
  exact List.take_of_length_le (by simp)
theorem extract_upto (s : ByteArray) (n : Nat) : s.extract 0 n = ⟨(s.toList.take n).toArray⟩ := by
  apply ByteArray.ext; apply Array.toList_inj.1
  rw [ByteArray.data_extract, Array.toList_extract, List.extract_eq_take_drop, ByteArray.toList_eq]
  simp
theorem sl_from (s : ByteArray) (n : Nat) (hn : n ≤ s.size) (x : Int) (hx : x = (n : Int)) (u : World) : (Instr.slice 9 (.string s) (some (.int .i64 x)) none none).run Try.prog u = .ok (.string ⟨(s.toList.drop n).toArray⟩) u := by
  subst hx
  rw [← extract_from]
  exact run_slice_string_l u 9 s Try.underlying9 .i64 (n : Int) (by omega) (by omega)
theorem sl_upto (s : ByteArray) (n : Nat) (hn : n ≤ s.size) (x : Int) (hx : x = (n : Int)) (u : World) : (Instr.slice 9 (.string s) none (some (.int .i64 x)) none).run Try.prog u = .ok (.string ⟨(s.toList.take n).toArray⟩) u := by
  subst hx
  rw [← extract_upto]
  exact run_slice_string_h u 9 s Try.underlying9 .i64 (n : Int) (by omega) (by omega)
theorem ofList_toList (L : List UInt8) : (⟨L.toArray⟩ : ByteArray).toList = L := by rw [ByteArray.toList_eq]
theorem ofList_size (L : List UInt8) : (⟨L.toArray⟩ : ByteArray).size = L.length := by show L.toArray.size = _; simp
theorem slL_from (L : List UInt8) (n : Nat) (hn : n ≤ L.length) (x : Int) (hx : x = (n : Int)) (u : World) : (Instr.slice 9 (.string ⟨L.toArray⟩) (some (.int .i64 x)) none none).run Try.prog u = .ok (.string ⟨(L.drop n).toArray⟩) u := by
  have := sl_from ⟨L.toArray⟩ n (by rw [ofList_size]; exact hn) x hx u
  rwa [ofList_toList] at this
theorem slL_upto (L : List UInt8) (n : Nat) (hn : n ≤ L.length) (x : Int) (hx : x = (n : Int)) (u : World) : (Instr.slice 9 (.string ⟨L.toArray⟩) none (some (.int .i64 x)) none).run Try.prog u = .ok (.string ⟨(L.take n).toArray⟩) u := by
  have := sl_upto ⟨L.toArray⟩ n (by rw [ofList_size]; exact hn) x hx u
  rwa [ofList_toList] at this
theorem idxL (L : List UInt8) (n : Nat) (c : UInt8) (h : L[n]? = some c) (x : Int) (hx : x = (n : Int)) (u : World) :
    (Instr.index 9 (.string ⟨L.toArray⟩) (.int .i64 x)).run Try.prog u = .ok (.int .u8 (c.toNat : Int)) u := idx_text ⟨L.toArray⟩ n c (by rw [ofList_toList]; exact h) x hx u
theorem exL_from (L : List UInt8) (n : Nat) : (⟨L.toArray⟩ : ByteArray).extract n L.length = ⟨(L.drop n).toArray⟩ := by
  have := extract_from ⟨L.toArray⟩ n
  rwa [ofList_size, ofList_toList] at this
theorem exL_upto (L : List UInt8) (n : Nat) : (⟨L.toArray⟩ : ByteArray).extract 0 n = ⟨(L.take n).toArray⟩ := by
  have := extract_upto ⟨L.toArray⟩ n
  rwa [ofList_toList] at this
theorem cat_ba (a b : List UInt8) : (⟨a.toArray⟩ : ByteArray) ++ ⟨b.toArray⟩ = ⟨(a ++ b).toArray⟩ := by
  apply ByteArray.ext; rw [ByteArray.data_append]; apply Array.toList_inj.1; simp
end Go.Proofs.Ytnmlifagchdphaa
