/-
  The contract of the document's own Encode: it answers the plain mathematics' text. No condition.
-/
import Derived.Test.YtpobfheioondaaaDoorKeysEncode
import Derived.Test.YtpobfheioondaaaDoorKeysCmp
import Derived.Test.YtpobfheioondaaaDoorCodeTextRef
import Derived.Deep.RegionHeld
import Derived.BigRegion
namespace Go.Proofs.YtpobfheioondaaaDoor
open Go.RowKit
theorem two_at (x y : Int) (c d : UInt8) (hx : x = (c.toNat : Int)) (hy : y = (d.toNat : Int)) (u : World) (g : Nat) (h0 : u.cell? ⟨g, 0, none⟩ = some (.int .u8 x)) (h1 : u.cell? ⟨g, 1, none⟩ = some (.int .u8 y)) :
    (convert 45 9 (.slice (some ⟨g, 0, none⟩) 2 2)).run Tryd.prog u = .ok (.string ⟨#[c, d]⟩) u := by
  subst hx hy
  exact two_text c d u g h0 h1
/-- What a block holds is held when another one is made. -/
theorem more_box {v : World} {N : Nat} {a b c d f : Value} (h : v.cell? ⟨N, 0, none⟩ = some a ∧ v.cell? ⟨N, 1, none⟩ = some b ∧ v.cell? ⟨N, 2, none⟩ = some c ∧ v.cell? ⟨N, 3, none⟩ = some d ∧ v.cell? ⟨N, 4, none⟩ = some f) (o : Obj) :
    (v.alloc o).cell? ⟨N, 0, none⟩ = some a ∧ (v.alloc o).cell? ⟨N, 1, none⟩ = some b ∧ (v.alloc o).cell? ⟨N, 2, none⟩ = some c ∧ (v.alloc o).cell? ⟨N, 3, none⟩ = some d ∧ (v.alloc o).cell? ⟨N, 4, none⟩ = some f := by
  have hl := World.block_lt_of_cell? _ _ h.1
  have e : ∀ i, (v.alloc o).cell? ⟨N, i, none⟩ = v.cell? ⟨N, i, none⟩ := fun i => World.cell?_alloc_lt _ _ _ hl
  rw [e, e, e, e, e]; exact h
set_option maxHeartbeats 8000000 in
theorem refencode_ok (st gr : Int) (k p u : ByteArray) (D K P : ByteArray) (h0 : 0 ≤ st ∧ st < 64) (h1 : 0 ≤ gr ∧ gr < 64) (hD : (D.size : Int) = 2) (hK : (K.size : Int) ≤ 130) (hP : (P.size : Int) ≤ 130) (hu : (u.size : Int) ≤ 64)
    (cv : ∀ (u : World) (g : Nat), u.cell? ⟨g, 0, none⟩ = some (.int .u8 st) → u.cell? ⟨g, 1, none⟩ = some (.int .u8 gr) → (convert 45 9 (.slice (some ⟨g, 0, none⟩) 2 2)).run Tryd.prog u = .ok (.string D) u)
    (c1 : ∀ v, Calls Tryd.prog 17 #[keyVal st gr k p u] v fun e v' => e = .returned (.int .i64 0) ∧ Below v.heap.size v v')
    (c2 : ∀ v, Calls Tryd.prog 29 #[.string k] v fun e v' => e = .returned (.string K) ∧ v' = v)
    (c3 : ∀ v, Calls Tryd.prog 29 #[.string p] v fun e v' => e = .returned (.string P) ∧ v' = v) (w : World) :
    Calls Tryd.prog 15 #[keyVal st gr k p u] w fun e w' => e = .returned (.tuple #[.string (D ++ K ++ P ++ u), .int .i64 0]) ∧ Below w.heap.size w w' := by
  have C1 := Lib.hid c1
  have C2 := Lib.hid c2
  have C3 := Lib.hid c3
  have ws : IntKind.u8.wrap st = st := by rw [IntKind.wrap_u8]; omega
  have wg : IntKind.u8.wrap gr = gr := by rw [IntKind.wrap_u8]; omega
  clear c1 c2 c3
  go_enter Tryd.func15, Tryd.ntmps15
  go_wp2_with (go_at_call 17; ((with_reducible refine (C1.out _).mono ?_); rintro e w1 ⟨rfl, hb⟩; have hB1 := below_after hb; have hx := kept_box hb; obtain ⟨b0, b1, b2, b3, b4⟩ := id hx; have m0 := fun o => (more_box hx o).1; have m1 := fun o => (more_box hx o).2.1; have m2 := fun o => (more_box hx o).2.2.1; have m3 := fun o => (more_box hx o).2.2.2.1; have m4 := fun o => (more_box hx o).2.2.2.2))
  go_region_held (fun v => v.cell? ⟨w.heap.size, 0, none⟩ = some (.int .i64 st) ∧ v.cell? ⟨w.heap.size, 1, none⟩ = some (.int .i64 gr) ∧ v.cell? ⟨w.heap.size, 2, none⟩ = some (.string k) ∧ v.cell? ⟨w.heap.size, 3, none⟩ = some (.string p) ∧ v.cell? ⟨w.heap.size, 4, none⟩ = some (.string u))
    (first
      | exact ⟨b0, b1, b2, b3, b4⟩
      | exact ⟨m0 _, m1 _, m2 _, m3 _, m4 _⟩)
    (first
      | (go_at_call 29; ((with_reducible refine (C2.out _).mono ?_); rintro e w' ⟨rfl, rfl⟩))
      | (go_at_call 29; ((with_reducible refine (C3.out _).mono ?_); rintro e w' ⟨rfl, rfl⟩)))
  all_goals go_wp2
  all_goals go_returns
  all_goals exact ⟨rfl, (hB1.alloc hB1.size _).drew⟩
theorem refencode_no (st gr : Int) (k p u : ByteArray) (E : Nat) (hE : ((E : Int) != 0) = true)
    (c1 : ∀ v, Calls Tryd.prog 17 #[keyVal st gr k p u] v fun e v' => e = .returned (.int .i64 (E : Int)) ∧ Below v.heap.size v v') (w : World) :
    Calls Tryd.prog 15 #[keyVal st gr k p u] w fun e w' => e = .returned (.tuple #[.string noText, .int .i64 (E : Int)]) ∧ Below w.heap.size w w' := by
  have C1 := Lib.hid c1
  clear c1
  go_enter Tryd.func15, Tryd.ntmps15
  go_wp2_with (go_at_call 17; ((with_reducible refine (C1.out _).mono ?_); rintro e w1 ⟨rfl, hb⟩; have hB1 := below_after hb))
  go_returns
  exact ⟨rfl, hB1⟩
theorem txt_small (s : ByteArray) (h : s.size ≤ 64) : ((⟨(Code.txt s.data.toList).toArray⟩ : ByteArray).size : Int) ≤ 130 := by
  have := txt_len s h
  show ((Code.txt s.data.toList).toArray.size : Int) ≤ 130
  rw [List.size_toArray]; omega
/-- Whatever the key, the document's Encode answers the plain mathematics' text and error. -/
theorem refencode_any (st gr : Int) (k p u : ByteArray) (w : World) :
    Calls Tryd.prog 15 #[keyVal st gr k p u] w fun e w' => e = .returned (.tuple #[.string ⟨(Keys.encode (skOf st gr k p u)).1.toArray⟩, .int .i64 ((Keys.encode (skOf st gr k p u)).2 : Int)]) ∧ Below w.heap.size w w' := by
  have c1 := fun v => refcheck_any st gr k p u v
  by_cases hE : Keys.check (skOf st gr k p u) = 0
  · rw [Keys.encode_ok hE]
    have hv := Keys.valid_check hE
    have hk : k.size ≤ 64 := by have := hv.key; rwa [show (skOf st gr k p u).key = k.data.toList from rfl, size_len] at this
    have hp : p.size ≤ 64 := by have := hv.space; rwa [show (skOf st gr k p u).space = p.data.toList from rfl, size_len] at this
    have hu : (u.size : Int) ≤ 64 := by have := hv.sub; rw [show (skOf st gr k p u).sub = u.data.toList from rfl, size_len] at this; omega
    have h1 := hv.st
    have h2 := hv.gr
    have := refencode_ok st gr k p u ⟨#[Keys.byteOf st, Keys.byteOf gr]⟩ ⟨(Code.txt k.data.toList).toArray⟩ ⟨(Code.txt p.data.toList).toArray⟩ h1 h2 rfl (txt_small k hk) (txt_small p hp) hu
      (two_at st gr _ _ (Keys.byteOf_nat h1).symm (Keys.byteOf_nat h2).symm) (fun v => by have := c1 v; rw [hE] at this; exact this) (fun v => refputtext_any k (by omega) v) (fun v => refputtext_any p (by omega) v) w
    refine this.mono ?_
    rintro e w' ⟨he, hb⟩
    refine ⟨?_, hb⟩
    rw [he]
    have hcat : (⟨#[Keys.byteOf st, Keys.byteOf gr]⟩ : ByteArray) ++ ⟨(Code.txt k.data.toList).toArray⟩ ++ ⟨(Code.txt p.data.toList).toArray⟩ ++ u = ⟨(Keys.enc (skOf st gr k p u)).toArray⟩ := by
      apply ByteArray.ext; rw [ByteArray.data_append, ByteArray.data_append, ByteArray.data_append]; apply Array.toList_inj.1; simp [Keys.enc_eq]
    rw [hcat]; rfl
  · rw [Keys.encode_no hE]
    exact refencode_no st gr k p u _ (bne_iff_ne.2 (fun h => hE (by exact_mod_cast h))) c1 w
end Go.Proofs.YtpobfheioondaaaDoor
