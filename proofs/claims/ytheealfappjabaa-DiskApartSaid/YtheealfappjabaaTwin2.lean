/-
  A file's twin: nil's, and one that is made. Condition: files of at most 2^28 bytes.
-/
import Derived.Test.YtheealfappjabaaTwin
namespace Go.Proofs.Ytheealfappjabaa
open Go Go.RowKit Go.Maps
attribute [local go_sem] eq_file ne_file ne_disk ne_map
theorem asking_nil {w : World} : ∀ (L : List (Nat × Nat)) (es : List MapEntry) (i : Nat), es.map (fun e => (e.key, e.val)) = L.map (fun x => (at0 x.1, at0 x.2)) → (Instr.findAsking 55 (.pointer none) es i).run Try.prog w = .ok none w
  | [], es, i, he => by
    have : es = [] := by simpa using he
    subst this
    simp [Instr.findAsking]
  | x :: L, [], i, he => by cases he
  | x :: L, e :: es, i, he => by
    have hp : Try.prog.underlying 55 = some (.pointer 59) := Try.underlying55
    simp only [List.map_cons, List.cons.injEq, Prod.mk.injEq] at he
    obtain ⟨⟨hk, hv⟩, he⟩ := he
    have hd : ∀ d : Nat, (Op.equalIn (d + 1) 55 (.pointer none) (at0 x.1)).run Try.prog w = .ok false w := fun d => by simp [Op.equalIn, run_underlying hp]
    have hq' : (Op.equal 55 (.pointer none) e.key).run Try.prog w = .ok false w := by rw [hk]; exact hd 9999
    simp [Instr.findAsking, hq', asking_nil L es (i + 1) he]
theorem twin_look_nil {mb : Nat} {L : List (Nat × Nat)} {w : World} (h : TwinMap mb L w) : (Instr.lookup 81 (.map (some mb)) (.pointer none) false).run Try.prog w = .ok (.pointer none) w := by
  have hm : Try.prog.underlying 81 = some (.map 55 55) := Try.underlying81
  have hp : Try.prog.underlying 55 = some (.pointer 59) := Try.underlying55
  obtain ⟨es, clock, hh, he⟩ := h
  have hck : ∀ e : Bool, (Instr.checkKey e 10000 55 (.pointer none)).run Try.prog w = .ok () w := fun e => by
    have hd : ∀ d : Nat, (Instr.checkKey e (d + 1) 55 (.pointer none)).run Try.prog w = .ok () w := fun d => by simp [Instr.checkKey, run_underlying hp]
    exact hd 9999
  have hf : (Instr.findKey 55 (.pointer none) es.toList).run Try.prog w = .ok none w := by
    have ha := asking_nil (w := w) L es.toList 0 he
    have hk := keys_at0 he
    cases hes : es.toList with
    | nil => simp [Instr.findKey, run_underlying hp, Instr.findNow]
    | cons e r =>
      rw [hes] at ha hk
      obtain ⟨c, hc⟩ := hk e (by simp)
      simp [Instr.findKey, run_underlying hp, Instr.findNow, Instr.sameNow, hc, ha]
  simp [Instr.lookup, run_underlying hm, run_getObj_map w mb es clock hh, hck, hf, Result.andThen]
set_option maxRecDepth 100000 in
set_option maxHeartbeats 1000000 in
theorem twin_nil {base : Nat} {own o2 : Own} {st : St} {B mb : Nat} {L : List (Nat × Nat)} {w : World} (h : Twins base own o2 st B mb L w) :
    Calls Try.prog 62 #[.pointer none, at0 B] w (Twinned base own o2 st B mb none w) := by
  have K := Lib.hid (twin_look_nil h.map)
  have c0 : w.cell? ⟨B, 0, none⟩ = some (.map (some mb)) := cell_of h.box rfl
  have R : Hid (Twinned base own o2 st B mb none w (.returned (.pointer none)) w) := Lib.hid ⟨_, o2, L, rfl, rfl, h, fun _ _ h => h, fun _ _ h => h, But.refl _ _⟩
  clear h
  go_enter Try.func62, Try.ntmps62
  go_wp2_with (at_lookup; refine wpList_lookup_want (by rfl) _ _ _ rfl _ _ _ rfl rfl K.out ?_)
  go_returns
  exact R.out
/-- A new role for a block. -/
def Own.put (o : Own) (b : Nat) (r : Role) : Own := fun k => if k = b then some r else o k
theorem Own.put_eq (o : Own) (b : Nat) (r : Role) : o.put b r b = some r := by simp [Own.put]
theorem Own.put_ne (o : Own) {b k : Nat} (r : Role) (h : k ≠ b) : o.put b r k = o k := by simp [Own.put, h]
end Go.Proofs.Ytheealfappjabaa
