/-
  A filter's text: its size, its first byte, that it is one. Condition: 1 to 32 bits for each of at most 65536 keys.
-/
import Derived.Test.YtccdbodemoefkaaDoorBloomAwake
namespace Go.Proofs.YtccdbodemoefkaaDoor
set_option maxRecDepth 100000
open Go.RowKit
/-- The text that Make makes. -/
def mkT (X : List ByteArray) (bits : Nat) : ByteArray := ⟨(Blm.text (X.map fun x => x.data.toList) bits).toArray⟩
theorem mkT_list (X : List ByteArray) (bits : Nat) : (mkT X bits).data.toList = UInt8.ofNat (Blm.probes bits) :: Blm.filt (Blm.probes bits) (Blm.wide X.length bits) (X.map fun x => x.data.toList) := by
  unfold mkT Blm.text; simp
theorem mkT_size (X : List ByteArray) (bits : Nat) : (mkT X bits).size = Blm.wide X.length bits + 1 := by
  rw [← okB_size, mkT_list, List.length_cons, Blm.filt_length]
theorem probe_byte (bits : Nat) (hb : bits ≤ 32) : (UInt8.ofNat (Blm.probes bits)).toNat = Blm.probes bits := by
  have := Blm.probes_le bits hb
  rw [UInt8.toNat_ofNat']; omega
theorem mkT_head (X : List ByteArray) (bits : Nat) (hb : bits ≤ 32) (h : 0 < (mkT X bits).size) : ((mkT X bits)[0]).toNat = Blm.probes bits := by
  rw [← head_at _ h, mkT_list, List.headD_cons, probe_byte bits hb]
theorem mkT_ok (X : List ByteArray) (bits : Nat) (hb : bits ≤ 32) (hn : X.length ≤ 65536) : Blm.okB (mkT X bits).data.toList = true := by
  have h1 := Blm.wide_pos X.length bits
  have h2 := Blm.wide_le X.length bits hn hb
  have h3 := Blm.probes_pos bits
  have h4 := Blm.probes_le bits hb
  unfold Blm.okB
  rw [okB_size, mkT_size, mkT_list, List.headD_cons, probe_byte bits hb]
  simp; omega
theorem max_le {n : Nat} (h : n ≤ 140737488351232) : n ≤ maxLen := by unfold maxLen; omega
theorem reach_texts {X : List ByteArray} (h : ∀ v ∈ X, v.size ≤ reachBytes) : ∀ v ∈ X, v.size ≤ maxLen := fun v hv => max_le (h v hv)
/-- Make, with any number of bits. -/
theorem make_calls (bits : Nat) (hb1 : 1 ≤ bits) (hb2 : bits ≤ 32) (a : Option Addr) (n c b o : Nat) (X : List ByteArray) (w : World) (ht : TextsAt a n c b o X w) (hX : ∀ x ∈ X, x.size ≤ maxLen) (hn : n ≤ 65536) :
    Hid (∀ u, Below w.heap.size w u → Calls Tryd.prog 13 #[.slice a n c, .int .i64 (bits : Int)] u fun e w' => e = .returned (.tuple #[.string (mkT X bits), .int .i64 0]) ∧ Below u.heap.size u w') :=
  Lib.hid fun u hb => make_good bits hb1 hb2 a n c b o X u (ht.below hb (Nat.le_refl _)) hX hn
end Go.Proofs.YtccdbodemoefkaaDoor
