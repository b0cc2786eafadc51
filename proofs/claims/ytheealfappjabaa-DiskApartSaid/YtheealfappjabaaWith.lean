/-
  A directory of the same names, with the twins of the files (with). Condition: at most 2^20 names.
-/
import Derived.Test.YtheealfappjabaaWithMath
import Derived.Maps.RangeWalk
namespace Go.Proofs.Ytheealfappjabaa
open Go Go.RowKit Go.Maps
attribute [local go_sem] eq_file ne_file ne_disk ne_map
/-- What with leaves: a new map of the names, of the twins. -/
def Withed (base : Nat) (own o2 : Own) (st : St) (B mb : Nat) (d : Dir) (w : World) (e : Ending) (w' : World) : Prop :=
  ∃ nm o2' L', e = .returned (.map (some nm)) ∧ w.heap.size ≤ nm ∧ MapAt o2' nm d w' ∧ Twins base own o2' st B mb L' w' ∧ (∀ k r, o2 k = some r → o2' k = some r) ∧ (∀ k, o2' k ≠ none → o2 k = none → w.heap.size ≤ k) ∧ o2' nm = none ∧ But mb w w'
theorem Twins.keep {base : Nat} {own o2 : Own} {st : St} {B mb : Nat} {L : List (Nat × Nat)} {w W : World} (h : Twins base own o2 st B mb L w) (hB : W.heap[B]? = w.heap[B]?) (hmb : W.heap[mb]? = w.heap[mb]?) (ho : ∀ k, o2 k ≠ none → W.heap[k]? = w.heap[k]?) (hs : w.heap.size ≤ W.heap.size) : Twins base own o2 st B mb L W := by
  obtain ⟨es, clock, h1, h2⟩ := h.map
  exact ⟨hB.trans h.box, ⟨es, clock, hmb.trans h1, h2⟩, h.pairs, h.all, fun c hc => ⟨(h.lo c hc).1, Nat.lt_of_lt_of_le (h.lo c hc).2 hs⟩, h.inj, h.apart, fun c i hc => file_keep (h.files c i hc) (ho c (by simp [hc])) fun g hg => ⟨ho g (by simp [hg]), hg⟩, h.data, h.free⟩
theorem Twins.blt {base : Nat} {own o2 : Own} {st : St} {B mb : Nat} {L : List (Nat × Nat)} {w : World} (h : Twins base own o2 st B mb L w) : B < w.heap.size ∧ mb < w.heap.size := by
  obtain ⟨es, clock, h1, _⟩ := h.map
  exact ⟨(Array.getElem?_eq_some_iff.1 h.box).1, (Array.getElem?_eq_some_iff.1 h1).1⟩
theorem Twins.but {base : Nat} {own o2 : Own} {st : St} {B mb : Nat} {L : List (Nat × Nat)} {w W : World} (h : Twins base own o2 st B mb L w) {r : Nat} (hr : r ≠ B ∧ r ≠ mb ∧ o2 r = none) (hb : But r w W) : Twins base own o2 st B mb L W :=
  h.keep (hb.block B h.blt.1 fun e => hr.1 e.symm) (hb.block mb h.blt.2 fun e => hr.2.1 e.symm) (fun k hk => hb.block k (h.lo k hk).2 fun e => hk (e ▸ hr.2.2)) hb.size
theorem Twins.below {base : Nat} {own o2 : Own} {st : St} {B mb : Nat} {L : List (Nat × Nat)} {w W : World} (h : Twins base own o2 st B mb L w) (hb : Below w.heap.size w W) : Twins base own o2 st B mb L W :=
  h.keep (hb.block B h.blt.1) (hb.block mb h.blt.2) (fun k hk => hb.block k (h.lo k hk).2) hb.size
/-- The loop's state: what is still to come is 'left'. -/
def Withing (base p : Nat) (own o2 : Own) (st : St) (B mb nb nm r : Nat) (d : Dir) (w : World) (left : Lit → Bool) (cnt : Nat) (wr : World) : Prop :=
  ∃ o2' L', wr.ranges Try.prog 9 (idOf own) nb r d.length (toD d) left cnt ∧ MapAt o2' nm (d.filter fun e => !left (.string e.1)) wr ∧ Twins base own o2' st B mb L' wr ∧ DiskAt base own p st wr ∧ (∀ k r, o2 k = some r → o2' k = some r) ∧ (∀ k, o2' k ≠ none → o2 k = none → w.heap.size ≤ k) ∧ o2' nm = none ∧ o2' r = none ∧ But mb w wr ∧ nm < wr.heap.size
theorem inv_key (key : Value) (kl : Lit) (h : keyOf Try.prog 9 key = some kl) : ∃ x : ByteArray, key = .string x := by
  have hk : Try.prog.underlying 9 = some .string := Try.underlying9
  cases key <;> simp [keyOf, hk, mapKey] at h
  exact ⟨_, rfl⟩
theorem inv_kl {x : ByteArray} {kl : Lit} (h : keyOf Try.prog 9 (.string x) = some kl) : kl = .string x.data.toList := by
  have hk : Try.prog.underlying 9 = some .string := Try.underlying9
  simp [keyOf, hk, mapKey] at h
  exact h.2.symm
theorem inv_val (own : Own) (v : Value) (y : DataW Unit × List MemPlace) (h : idOf own v = some y) : ∃ c, v = twinV c := by
  unfold idOf at h
  split at h
  · exact ⟨none, rfl⟩
  · rename_i b; exact ⟨some b, rfl⟩
  · cases h
/-- What an entry that comes says of the directory. -/
theorem entry_says {own : Own} {d : Dir} {n : NameS} {c : Option Nat} {y : DataW Unit × List MemPlace} (hv : idOf own (twinV c) = some y) (hat : ∀ zd, (toD d).atKey (.string n) zd = y.1) : ∃ b i, c = some b ∧ own b = some (.file i) ∧ (n, i) ∈ d := by
  have h0 := hat .nil
  rw [toD_at] at h0
  cases hl : d.look n with
  | none =>
    exfalso
    have h1 := hat (.lit (.bool true))
    have e : ∀ zd : DataW Unit, (toD d).atKey (.string n) zd = zd := fun zd => by
      have hn := look_none hl
      simp only [toD, DataW.atKey, List.find?_map]
      have : List.find? ((fun p : Lit × DataW Unit => p.1.sameKey (.string n)) ∘ fun p : NameS × Nat => (Lit.string p.1, (DataW.lit (.int .u64 (p.2 : Int)) : DataW Unit))) d = none := by
        rw [List.find?_eq_none]
        intro q hq
        simp [Lit.sameKey]
        exact hn q hq
      rw [this]; rfl
    rw [e] at h1
    rw [hl] at h0
    rw [← h1] at h0
    cases h0
  | some i =>
    rw [hl] at h0
    cases c with
    | none => 
      have : y = (.nil, []) := by have := hv; simp [idOf, twinV] at this; exact this.symm
      rw [this] at h0; cases h0
    | some b =>
      refine ⟨b, i, rfl, ?_, look_some hl⟩
      have hy : idOf own (.pointer (some ⟨b, 0, none⟩)) = some (.lit (.int .u64 (i : Int)), y.2) := by
        have := hv
        unfold twinV at this
        rw [this, ← Prod.eta y]
        simp only [h0]
      obtain ⟨b', e1, e2⟩ := idOf_lit hy
      simp only [Value.pointer.injEq, Option.some.injEq, Addr.mk.injEq, and_true] at e1
      rw [e1]; exact e2
set_option maxRecDepth 100000 in
set_option maxHeartbeats 4000000 in
theorem with_any {base p : Nat} {own o2 : Own} {st : St} {B mb : Nat} {L : List (Nat × Nat)} {w : World} (h : Twins base own o2 st B mb L w) (hd : DiskAt base own p st w) (hsz : ∀ i, (fileOf st.files i).data.length ≤ 268435456) {nb : Nat} {d : Dir} (hm : MapAt own nb d w) (hnb : own nb ≠ none) (hdl : d.length ≤ 1048576) :
    Calls Try.prog 48 #[.map (some nb), .func (.func 62) #[] #[at0 B]] w (Withed base own o2 st B mb d w) := by
  have hmm := @run_makeMap Try.prog
  have hm0 := But.map hm (below_alloc w (.map #[] 0))
  have hown0 : (w.alloc (.map #[] 0)).ownsMap Try.prog 9 (idOf own) nb d.length (toD d) := hm0
  go_enter Try.func48, Try.ntmps48
  go_wp2_with (first | (at_range; refine wpList_range_own _ rfl _ 49 rfl 9 55 str_keyed Try.underlying49 (idOf own) nb d.length (toD d) rfl hown0 ?_; intro w0 hrg0 hg0 hs0))
  go_frame
  have nb1 : Below w.heap.size w w0 := ((Below.refl _ w).alloc (Nat.le_refl _) _).trans ⟨hg0.os, hg0.tape, hg0.output, by have := hg0.size; simp at this; omega, fun k hk => hg0.block k (by simp; omega) (by simp)⟩
  have start : Withing base p own o2 st B mb nb w.heap.size (w.alloc (.map #[] 0)).heap.size d w (Maps.has (toD d)) (Maps.size (toD d)) w0 := by
    refine ⟨o2, L, hrg0, ?_, h.below nb1, hd.below nb1, fun _ _ h => h, fun k h1 h2 => absurd h2 h1, ?_, ?_, ⟨nb1.os, nb1.tape, nb1.output, nb1.size, fun k hk _ => nb1.block k hk⟩, by rw [hs0]; simp; omega⟩
    · have e : (d.filter fun e => !(Maps.has (toD d) (.string e.1))) = [] := by
        rw [List.filter_eq_nil_iff]
        intro e he
        have : Maps.has (toD d) (.string e.1) = true := by
          show (d.map fun p : NameS × Nat => ((.string p.1 : Lit), (DataW.lit (.int .u64 (p.2 : Int)) : DataW Unit))).any (fun p => p.1.sameKey (.string e.1)) = true
          rw [List.any_map, List.any_eq_true]
          exact ⟨e, he, by simp [Lit.sameKey]⟩
        rw [this]; simp
      rw [e]
      exact map_keep (World.ownsMap_made w Try.prog 9 (idOf o2)) (.refl _) (hg0.block w.heap.size (by simp) (by simp))
    · cases e : o2 w.heap.size with
      | none => rfl
      | some r => exact absurd (h.lo w.heap.size (by simp [e])).2 (by omega)
    · cases e : o2 (w.alloc (.map #[] 0)).heap.size with
      | none => rfl
      | some r => exact absurd (h.lo _ (by rw [e]; simp)).2 (by simp)
  have start := Lib.hid start
  have hd' := Lib.hid hd
  have h' := Lib.hid h
  have hdl' := Lib.hid hdl
  have hsz' := Lib.hid hsz
  have hnb' := Lib.hid hnb
  have hrise := Lib.hid (dir_rising hm)
  obtain ⟨r, hr⟩ := named (w.alloc (.map #[] 0)).heap.size
  rw [← hr.out] at start ⊢
  have hrN : w.heap.size < r := by rw [hr.out]; simp
  clear hm hm0 hown0 h hd hsz hnb hdl nb1 hrg0 hg0 hs0 hr
  go_loopw [] (fun wr => ∃ left cnt, Withing base p own o2 st B mb nb w.heap.size r d w left cnt wr) (fun wr => wr.rangeLeft nb r)
  case atStart => exact ⟨_, _, start.out⟩
  case round =>
    obtain ⟨left, cnt, hW⟩ := hrel
    obtain ⟨o2', L', hrg, hmap, htw, hdk, hup, hfr, hnm, hor, hbut, hlt⟩ := hW
    have htw' := Lib.hid htw
    have hdk' := Lib.hid hdk
    have hup' := Lib.hid hup
    have hfr' := Lib.hid hfr
    have hbut' := Lib.hid hbut
    have hmap' := Lib.hid hmap
    have hnm' := Lib.hid hnm
    have hor' := Lib.hid hor
    clear htw hdk hup hfr hbut hmap hnm hor
    go_wp2_with (at_next; refine wpList_next_ranges _ rfl _ rfl 9 str_keyed (idOf own) (fun x : ByteArray => Value.string x) twinV inv_key (inv_val own) nb r d.length (toD d) left cnt rfl hrg ?_ ?_)
    · intro hc0 hl0
      go_wp2_with fail
      go_returns
      refine ⟨w.heap.size, o2', L', rfl, Nat.le_refl _, ?_, htw'.out, hup'.out, hfr'.out, hnm'.out, hbut'.out⟩
      have hm := hmap'.out
      have e : (d.filter fun e => !left (.string e.1)) = d := by
        rw [List.filter_eq_self]; intro e _; rw [hl0]; rfl
      rwa [e] at hm
    · intro x c kl y ps w1 cnt1 hkey hlk hv hat hrg1 hlt1 hg1 hs1 hen
      obtain rfl := inv_kl hkey
      obtain ⟨b, i, rfl, hbi, hmem⟩ := entry_says hv hat
      simp only [twinV] at hen
      obtain ⟨qB, qm⟩ := h'.out.blt
      have ownlt : ∀ k, own k ≠ none → k < w.heap.size := fun k hk => hd'.out.lt hk
      have ownmb : ∀ k, own k ≠ none → k ≠ mb := fun k hk e => hk (e ▸ h'.out.free.2.1)
      have bt1 := but_grown hg1
      have tw1 := Lib.hid (htw'.out.but ⟨by omega, by omega, hor'.out⟩ bt1)
      have dk1 := Lib.hid (hdk'.out.keep (fun k hk => bt1.block k (hdk'.out.lt hk) (by have := ownlt k hk; omega)) bt1.size)
      have mp1 := Lib.hid (map_keep hmap'.out (.refl _) (bt1.block w.heap.size hlt (by omega)))
      have T := Lib.hid (twin_any tw1.out dk1.out hsz'.out (v := at0 b) (f := some i) ⟨b, rfl, hbi⟩)
      have hrgh := Lib.hid hrg1
      have hgh := Lib.hid bt1
      have hvh := Lib.hid hmem
      have hlh := Lib.hid hlk
      have hkeyh := Lib.hid hkey
      have hoh := Lib.hid ownlt
      have hoh2 := Lib.hid ownmb
      clear hmap' htw' hdk' hv hat hg1 hmem hlk hkey ownlt ownmb bt1
      go_wp2_with fail
      refine T.out.mono ?_
      rintro e w2 ⟨v2, o3, L3, rfl, ⟨c2, rfl, hc2⟩, tw2, up2, fr2, b2⟩
      have lt1 := hrgh.out.lt
      have z1 := hgh.out.size
      have z2 := b2.size
      have mp2 : MapAt o3 w.heap.size (d.filter fun e => !left (.string e.1)) w2 := map_keep mp1.out (fun k j h => up2 k _ h) (b2.block w.heap.size (by omega) (by omega))
      have rg2 := Lib.hid (hrgh.out.kept (w' := w2) (row := some mb) ⟨b2.os, b2.tape, b2.output, b2.size, fun k hk hne => b2.block k hk (fun e => hne (by rw [e]))⟩ (by intro e; exact hoh2.out nb hnb'.out (Option.some.inj e)) (by intro e; have := Option.some.inj e; omega))
      have dk2 := Lib.hid (dk1.out.keep (fun k hk => b2.block k (dk1.out.lt hk) (hoh2.out k hk)) b2.size)
      have tw2 := Lib.hid tw2
      have hlen : (d.filter fun e => !left (.string e.1)).length < maxLen := by
        have := List.length_filter_le (fun e : NameS × Nat => !left (.string e.1)) d
        have := hdl'.out
        unfold maxLen; omega
      have hown2 : w2.ownsMap Try.prog 9 (idOf o3) w.heap.size (d.filter fun e => !left (.string e.1)).length (toD (d.filter fun e => !left (.string e.1))) := mp2
      have hid3 := idOf_file hc2
      have hkey2 := hkeyh.out
      have up2 := Lib.hid up2
      have fr2 := Lib.hid fr2
      have b2 := Lib.hid b2
      clear mp2 T
      go_wp2_with (at_mapUpdate; refine wpList_mapUpdate_own _ rfl _ _ _ 49 rfl 9 55 str_keyed Try.underlying49 _ w.heap.size _ _ rfl hown2 hlen _ _ _ rfl rfl hkey2 _ [] hid3 ?_; intro w3 hown3 hgrow3)
      have bt3 := but_grown hgrow3
      have z3 := bt3.size
      have hmapE : (Dir.put (d.filter fun e => !left (.string e.1)) x.data.toList i) = d.filter fun e => !(left (.string e.1) && !(Lit.string e.1).sameKey (.string x.data.toList)) := by
        rw [part_one (fun n => !left (.string n)) x.data.toList i (by rw [hlh.out]; rfl) d hrise.out hvh.out]
        refine List.filter_congr fun e _ => ?_
        simp [Lit.sameKey, Bool.not_and]
      have mp3 : MapAt o3 w.heap.size (d.filter fun e => !(left (.string e.1) && !(Lit.string e.1).sameKey (.string x.data.toList))) w3 := map_tight (by rw [← hmapE, ← toD_put]; exact hown3)
      have o3nm : o3 w.heap.size = none := fr2.out _ (by omega) hnm'.out
      have o3r : o3 r = none := fr2.out _ (by omega) hor'.out
      have tw3 := Lib.hid (tw2.out.but ⟨by omega, by omega, o3nm⟩ bt3)
      have dk3 := Lib.hid (dk2.out.keep (fun k hk => bt3.block k (dk2.out.lt hk) (by have := hoh.out k hk; omega)) bt3.size)
      have rg3 := Lib.hid (rg2.out.kept (w' := w3) (row := some w.heap.size) hgrow3 (by intro e; have := Option.some.inj e; have := hoh.out nb hnb'.out; omega) (by intro e; have := Option.some.inj e; omega))
      have mp3 := Lib.hid mp3
      have upA := Lib.hid (fun k j h => up2.out k j (hup'.out k j h))
      have frA : Hid (∀ k, o3 k ≠ none → o2 k = none → w.heap.size ≤ k) := Lib.hid fun k h1 h2 => by
        by_cases e : o2' k = none
        · by_cases hk : k < w1.heap.size
          · exact absurd (fr2.out k hk e) h1
          · have := hbut'.out.size; omega
        · exact hfr'.out k e h2
      have btA : Hid (But mb w w3) := Lib.hid ⟨bt3.os.trans (b2.out.os.trans (hgh.out.os.trans hbut'.out.os)), bt3.tape.trans (b2.out.tape.trans (hgh.out.tape.trans hbut'.out.tape)), bt3.output.trans (b2.out.output.trans (hgh.out.output.trans hbut'.out.output)), by have := hbut'.out.size; omega, fun k hk hne => by
        have y0 := hbut'.out.size
        rw [bt3.block k (by omega) (by omega), b2.out.block k (by omega) hne, hgh.out.block k (by omega) (by omega), hbut'.out.block k hk hne]⟩
      have l1 := hrgh.out.left_eq
      have l2 := hrg.left_eq
      have l3 := rg3.out.left_eq
      clear hown3 hgrow3 bt3 hmapE tw2 dk2 rg2
      go_wp2_with fail
      go_roundw
      case rel => exact ⟨_, _, _, _, _, _, _, _, _, _, _, _, ⟨_, cnt1, o3, L3, rg3.out, mp3.out, tw3.out, dk3.out, upA.out, frA.out, o3nm, o3r, btA.out, by omega⟩, rfl⟩
      case measure => rw [l3, l2]; exact hlt1
end Go.Proofs.Ytheealfappjabaa
