/-
  Two disks that tell the same are the same (same). No condition.
-/
import Derived.Test.YtheealfappjabaaDiskSame
namespace Go.Proofs.Ytheealfappjabaa
open Go.RowKit Go.Maps
attribute [local go_sem] eq_file ne_file ne_disk ne_map
/-- Two disks tell the same. -/
structure Alike (s t : St) : Prop where
  names : s.dir.map (·.1) = t.dir.map (·.1)
  used : s.used = t.used
  down : s.down = t.down
  read : ∀ n, s.readS n = t.readS n ∧ s.readE n = t.readE n
theorem Alike.symm {s t : St} (h : Alike s t) : Alike t s := ⟨h.names.symm, h.used.symm, h.down.symm, fun n => ⟨(h.read n).1.symm, (h.read n).2.symm⟩⟩
theorem Alike.namesS {s t : St} (h : Alike s t) : (namesS s).map (·.1) = (namesS t).map (·.1) := by
  unfold Go.Proofs.Ytheealfappjabaa.namesS
  rw [h.down]
  split
  · rfl
  · exact h.names
theorem bne_string (a : ByteArray) : (a.toList != a.toList) = false := by simp
set_option maxRecDepth 100000 in
set_option maxHeartbeats 4000000 in
theorem same_any {b1 b2 p1 p2 : Nat} {o1 o2 : Own} {s t : St} {w : World} (ha : DiskAt b1 o1 p1 s w) (hb : DiskAt b2 o2 p2 t w) {m1 m2 : Nat} (hG1 : Good m1 s.dir) (hG2 : Good m2 t.dir) (T : Alike s t) :
    Calls Try.prog 21 #[at0 p1, at0 p2] w fun e w' => e = .returned (.bool true) ∧ Below w.heap.size w w' := by
  have N1 := Lib.hid (names_any ha hG1)
  have hnm : ∀ (j : Nat) (x : NameS × Nat), (namesS s)[j]? = some x → (⟨x.1.toArray⟩ : ByteArray).size ≤ maxLen := fun j x hx => by
    have hmem : x ∈ s.dir := by
      have := List.mem_of_getElem? hx
      unfold namesS at this
      split at this
      · cases this
      · exact this
    have := (hG1.ok x hmem).2
    unfold validN at this
    simp only [Bool.and_eq_true, decide_eq_true_eq] at this
    have := this.2.2
    show x.1.toArray.size ≤ _
    rw [List.size_toArray]; unfold maxLen; omega
  have hnm := Lib.hid hnm
  have hnames := Lib.hid T.namesS
  have ha := Lib.hid ha
  have hb := Lib.hid hb
  have hG2 := Lib.hid hG2
  have T := Lib.hid T
  obtain ⟨d1, hd1⟩ := named (namesS s)
  obtain ⟨d2, hd2⟩ := named (namesS t)
  rw [← hd1.out] at N1 hnm hnames
  rw [← hd2.out] at hnames
  go_enter Try.func21, Try.ntmps21
  go_wp2_with fail
  refine N1.out.mono ?_
  rintro e w1 ⟨v1, rfl, n1, q1⟩
  have n1 := Lib.hid n1
  have q1 := Lib.hid q1
  have hb1 := Lib.hid (hb.out.below q1.out)
  have N2 := names_any hb1.out hG2.out
  rw [← hd2.out] at N2
  have N2 := Lib.hid N2
  go_wp2_with fail
  refine N2.out.mono ?_
  rintro e w2 ⟨v2, rfl, n2, q2⟩
  have SN := Lib.hid (same_names (n1.out.below q2) n2 hnames.out)
  have n1' := Lib.hid (n1.out.below q2)
  have q2' := Lib.hid (q1.out.trans (q2.mono q1.out.size))
  clear n1 q1 N1 N2 n2 q2 hb1
  go_wp2_with fail
  refine SN.out.mono ?_
  rintro e w3 ⟨rfl, q3⟩
  have q4 := Lib.hid (q2'.out.trans (q3.mono q2'.out.size))
  have da := Lib.hid (ha.out.below q4.out)
  have db := Lib.hid (hb.out.below q4.out)
  have n3 := Lib.hid (n1'.out.below q3)
  obtain ⟨uu, huu⟩ := named (if s.down = true then 0 else s.used)
  obtain ⟨dd, hdd⟩ := named s.down
  have U1 := used_any da.out
  have U2 := used_any db.out
  rw [← T.out.used, ← T.out.down, ← huu.out] at U2
  rw [← huu.out] at U1
  have D1 := down_any da.out
  have D2 := down_any db.out
  rw [← T.out.down, ← hdd.out] at D2
  rw [← hdd.out] at D1
  have U1 := Lib.hid U1
  have U2 := Lib.hid U2
  have D1 := Lib.hid D1
  have D2 := Lib.hid D2
  have hbd : (dd != dd) = false := by simp
  have hbu : (uu != uu) = false := by simp
  obtain ⟨va, vc, rfl⟩ := n3.out.slice
  have hfew := n3.out.few
  clear q3 SN n1' q2' ha hb hnames hd2
  go_wp2_with fail
  refine U1.out.mono ?_
  rintro e w4 ⟨rfl, rfl⟩
  go_wp2_with fail
  refine U2.out.mono ?_
  rintro e w4 ⟨rfl, rfl⟩
  go_wp2_with fail
  refine D1.out.mono ?_
  rintro e w4 ⟨rfl, rfl⟩
  go_wp2_with fail
  refine D2.out.mono ?_
  rintro e w4 ⟨rfl, rfl⟩
  clear U1 U2 D1 D2
  go_wp2_with fail
  go_loopw [6] (fun i wr => ∃ j : Nat, j ≤ d1.length ∧ i = .int .i64 (j : Int) ∧ Below w3.heap.size w3 wr) (fun i _ => d1.length - (intOf i).toNat)
  case atStart => exact ⟨0, Nat.zero_le _, rfl, Below.refl _ _⟩
  case round =>
    obtain ⟨j, hj, rfl, hbw⟩ := hrel
    have hbw := Lib.hid hbw
    by_cases hlt : j < d1.length
    · obtain ⟨⟨nm, i⟩, hx⟩ : ∃ x, d1[j]? = some x := ⟨_, List.getElem?_eq_getElem hlt⟩
      have hsz := hnm.out j _ hx
      obtain ⟨g, rfl, _, e0, _, _⟩ := (n3.out.below hbw.out).at hx
      simp only at e0 hsz
      have R1 := read_any (da.out.below hbw.out) ⟨nm.toArray⟩ hsz
      have R2 := read_any (db.out.below hbw.out) ⟨nm.toArray⟩ hsz
      rw [← (T.out.read _).1, ← (T.out.read _).2] at R2
      obtain ⟨S, hS⟩ := named (⟨(s.readS (⟨nm.toArray⟩ : ByteArray).data.toList).toArray⟩ : ByteArray)
      obtain ⟨E, hE⟩ := named (s.readE (⟨nm.toArray⟩ : ByteArray).data.toList)
      rw [← hS.out, ← hE.out] at R1 R2
      have R1 := Lib.hid R1
      have R2 := Lib.hid R2
      have hbS : (S.toList != S.toList) = false := by simp
      have hbE : (E != E) = false := by simp
      clear hx hsz
      go_wp2_with fail
      refine R1.out.mono ?_
      rintro e w4 ⟨rfl, rfl⟩
      go_wp2_with fail
      refine R2.out.mono ?_
      rintro e w4 ⟨rfl, rfl⟩
      clear R1 R2
      go_wp2_with fail
      go_roundw
      case rel => exact ⟨j + 1, by omega, by go_num, hbw.out⟩
      case measure => simp [intOf]; omega
    · go_wp2_with fail
      go_returns
      exact ⟨rfl, q4.out.trans (hbw.out.mono q4.out.size)⟩
end Go.Proofs.Ytheealfappjabaa
