/-
  What is written of an edit is read back, and bytes that are read are written so: the mathematics. No condition.
-/
import Derived.Test.YthkdijapmamdbaaEditDecMath
import Derived.Test.YthkdijapmamdbaaEditPut
import Derived.Test.YthkdijapmamdbaaCodeMath2
namespace Go.Proofs.Ythkdijapmamdbaa
set_option maxRecDepth 100000
open Go.RowKit
/-- The reader stands before r. -/
def Bef (l : List UInt8) (o : Option Nat) (r : List UInt8) : Prop := ∃ a, o = some a ∧ a ≤ l.length ∧ l.drop a = r
theorem bef_num {l r : List UInt8} {o : Option Nat} {n most : Nat} (h : Bef l o (Code.uvar n ++ r)) (hn : n ≤ most) (hm : most ≤ 18446744073709551615) : (dnum l o most).1 = n ∧ Bef l (dnum l o most).2 r := by
  obtain ⟨a, rfl, ha, hd⟩ := h
  have e := Code.rd_uvar n 0 r (by omega) (fun h => absurd h (by omega)) (by rw [Nat.pow_zero, Nat.mul_one]; omega)
  have hl : (l.drop a).length = (Code.uvar n).length + r.length := by rw [hd, List.length_append]
  rw [List.length_drop] at hl
  unfold dnum
  simp only
  rw [hd, e, if_pos ⟨rfl, hn⟩]
  refine ⟨rfl, a + (Code.uvar n).length, rfl, by omega, ?_⟩
  rw [← List.drop_drop, hd, List.drop_left]
theorem bef_txt {l r : List UInt8} {o : Option Nat} {t : ByteArray} (h : Bef l o (fldB t ++ r)) (hn : t.size ≤ 520) : (⟨(dtxt l o).1.toArray⟩ : ByteArray) = t ∧ Bef l (dtxt l o).2 r := by
  obtain ⟨a, rfl, ha, hd⟩ := h
  have ht : t.data.toList.length = t.size := by rw [Array.length_toList]; rfl
  have e := Code.rdField_fld t.data.toList r (by omega) 520 (by omega)
  unfold fldB at hd
  rw [← ht] at hd
  have hl : (l.drop a).length = (Code.uvar t.data.toList.length ++ t.data.toList).length + r.length := by rw [hd, List.length_append]
  rw [List.length_drop] at hl
  unfold dtxt
  simp only
  rw [hd, e, if_pos rfl]
  refine ⟨rfl, a + (Code.uvar t.data.toList.length ++ t.data.toList).length, rfl, by omega, ?_⟩
  rw [← List.drop_drop, hd, List.drop_left]
theorem bef_gone {l r : List UInt8} {o : Option Nat} {g : Gn} (h : Bef l o (encG g ++ r)) (hl : LevP g.lev) (hn : g.num ≤ 18446744073709551615) : (dgone l o).1 = g ∧ Bef l (dgone l o).2 r := by
  unfold encG at h
  rw [List.append_assoc] at h
  obtain ⟨e1, h1⟩ := bef_num (most := 3) h (by have := hl.1; have := hl.2; omega) (by omega)
  obtain ⟨e2, h2⟩ := bef_num (most := mostN) h1 hn (Nat.le_refl _)
  refine ⟨?_, h2⟩
  unfold dgone
  simp only
  rw [e1, e2]
  obtain ⟨lev, num⟩ := g
  simp only [Gn.mk.injEq, and_true]
  have := hl.1
  simp only at this
  omega
theorem bef_meta {l r : List UInt8} {o : Option Nat} {x : Mt} (h : Bef l o (Code.uvar x.num ++ (Code.uvar x.size.toNat ++ (Code.uvar x.rows.toNat ++ (fldB x.fst ++ (fldB x.lst ++ (Code.uvar x.least ++ (Code.uvar x.gr ++ r)))))))) (hx : MayP x) : (dmeta l o).1 = x ∧ Bef l (dmeta l o).2 r := by
  obtain ⟨x1, x2, x3, x4, x5, x6, x7, x8, x9, x10, _, x12, x13, x14⟩ := hx
  obtain ⟨e1, h1⟩ := bef_num (most := mostN) h (by unfold mostN; omega) (Nat.le_refl _)
  obtain ⟨e2, h2⟩ := bef_num (most := 262144) h1 (by omega) (by omega)
  obtain ⟨e3, h3⟩ := bef_num (most := 262144) h2 (by omega) (by omega)
  obtain ⟨e4, h4⟩ := bef_txt h3 (by omega)
  obtain ⟨e5, h5⟩ := bef_txt h4 (by omega)
  obtain ⟨e6, h6⟩ := bef_num (most := mostN) h5 (by unfold mostN; omega) (Nat.le_refl _)
  obtain ⟨e7, h7⟩ := bef_num (most := mostN) h6 (by unfold mostN; omega) (Nat.le_refl _)
  refine ⟨?_, h7⟩
  unfold dmeta
  simp only
  rw [e1, e2, e3, e4, e5, e6, e7]
  obtain ⟨a1, a2, a3, a4, a5, a6, a7⟩ := x
  simp only [Mt.mk.injEq, true_and, and_true]
  simp only at x3 x5
  omega
theorem encP_eq (p : Pl) : encP p = Code.uvar p.lev.toNat ++ (Code.uvar p.tb.num ++ (Code.uvar p.tb.size.toNat ++ (Code.uvar p.tb.rows.toNat ++ (fldB p.tb.fst ++ (fldB p.tb.lst ++ (Code.uvar p.tb.least ++ Code.uvar p.tb.gr)))))) := by
  unfold encP
  simp only [List.append_assoc]
theorem bef_pl {l r : List UInt8} {o : Option Nat} {p : Pl} (h : Bef l o (encP p ++ r)) (hl : LevP p.lev) (hx : MayP p.tb) : (dpl l o).1 = p ∧ Bef l (dpl l o).2 r := by
  rw [encP_eq] at h
  simp only [List.append_assoc] at h
  obtain ⟨e1, h1⟩ := bef_num (most := 3) h (by have := hl.1; have := hl.2; omega) (by omega)
  obtain ⟨e2, h2⟩ := bef_meta h1 hx
  refine ⟨?_, h2⟩
  unfold dpl
  simp only
  rw [e1, e2]
  obtain ⟨lev, tb⟩ := p
  simp only [Pl.mk.injEq, and_true]
  have := hl.1
  simp only at this
  omega
theorem bef_many {α : Type} {l : List UInt8} (rd : Option Nat → α × Option Nat) (enc : α → List UInt8) (xs : List α) (hstep : ∀ x ∈ xs, ∀ o r, Bef l o (enc x ++ r) → (rd o).1 = x ∧ Bef l (rd o).2 r) {o : Option Nat} {r : List UInt8} (h : Bef l o (xs.flatMap enc ++ r)) :
    ∀ k, k ≤ xs.length → (many rd k o).1 = xs.take k ∧ Bef l (many rd k o).2 ((xs.drop k).flatMap enc ++ r)
  | 0, _ => ⟨by simp [many], by simpa [many] using h⟩
  | k + 1, hk => by
    obtain ⟨e1, h1⟩ := bef_many rd enc xs hstep h k (by omega)
    have hx : xs.drop k = xs[k] :: xs.drop (k + 1) := List.drop_eq_getElem_cons (by omega)
    rw [hx, List.flatMap_cons, List.append_assoc] at h1
    obtain ⟨e2, h2⟩ := hstep xs[k] (List.getElem_mem _) _ _ h1
    refine ⟨?_, h2⟩
    show (many rd k o).1 ++ [(rd (many rd k o).2).1] = _
    rw [e1, e2, List.take_succ_eq_append_getElem (by omega)]
theorem bef_all {α : Type} {l : List UInt8} (rd : Option Nat → α × Option Nat) (enc : α → List UInt8) (xs : List α) (hstep : ∀ x ∈ xs, ∀ o r, Bef l o (enc x ++ r) → (rd o).1 = x ∧ Bef l (rd o).2 r) {o : Option Nat} {r : List UInt8} (h : Bef l o (xs.flatMap enc ++ r)) : (many rd xs.length o).1 = xs ∧ Bef l (many rd xs.length o).2 r := by
  obtain ⟨e1, h1⟩ := bef_many rd enc xs hstep h xs.length (Nat.le_refl _)
  rw [List.take_length] at e1
  rw [List.drop_length] at h1
  exact ⟨e1, by simpa using h1⟩
/-- What is written is read back. -/
theorem dec_enc {e : Ed} (hI : EdIn e) (hL : ListedP e) (hg : e.gone.length ≤ 256) (ha : e.added.length ≤ 256) : DecP (encE e) ∧ decRaw (encE e) = e := by
  obtain ⟨l, hl⟩ : ∃ l, l = encE e := ⟨_, rfl⟩
  rw [← hl]
  have h0 : Bef l (some 0) (Code.uvar e.log ++ (Code.uvar e.next ++ (Code.uvar e.seq ++ (Code.uvar e.gone.length ++ (e.gone.flatMap encG ++ (Code.uvar e.added.length ++ (e.added.flatMap encP ++ []))))))) := ⟨0, rfl, Nat.zero_le _, by rw [List.drop_zero, hl]; unfold encE; simp only [List.append_assoc, List.append_nil]⟩
  obtain ⟨e1, h1⟩ := bef_num (most := mostN) h0 hI.1 (Nat.le_refl _)
  obtain ⟨e2, h2⟩ := bef_num (most := mostN) h1 hI.2.1 (Nat.le_refl _)
  obtain ⟨e3, h3⟩ := bef_num (most := mostN) h2 hI.2.2.1 (Nat.le_refl _)
  obtain ⟨e4, h4⟩ := bef_num (most := 256) h3 hg (by omega)
  obtain ⟨e5, h5⟩ := bef_all (dgone l) encG e.gone (fun x hx o r h => bef_gone h (hL.1 x hx) (hI.2.2.2.1 x hx).2) h4
  obtain ⟨e6, h6⟩ := bef_num (most := 256) h5 ha (by omega)
  obtain ⟨e7, h7⟩ := bef_all (dpl l) encP e.added (fun x hx o r h => bef_pl h (hL.2 x hx).1 (hL.2 x hx).2) h6
  have d5 : dec5 l = many (dgone l) e.gone.length (dec4 l).2 := by unfold dec5; rw [show (dec4 l).1 = e.gone.length from e4]
  have d6 : dec6 l = dnum l (many (dgone l) e.gone.length (dec4 l).2).2 256 := by unfold dec6; rw [d5]
  have d7 : dec7 l = many (dpl l) e.added.length (dec6 l).2 := by unfold dec7; rw [show (dec6 l).1 = e.added.length from by rw [d6]; exact e6]
  have d7' : dec7 l = many (dpl l) e.added.length (dnum l (many (dgone l) e.gone.length (dec4 l).2).2 256).2 := by rw [d7, d6]
  have er : decRaw l = e := by
    unfold decRaw
    rw [show (dec1 l).1 = e.log from e1, show (dec2 l).1 = e.next from e2, show (dec3 l).1 = e.seq from e3, d5, d7', show (many (dgone l) e.gone.length (dec4 l).2).1 = e.gone from e5, show (many (dpl l) e.added.length (dnum l (many (dgone l) e.gone.length (dec4 l).2).2 256).2).1 = e.added from e7]
  refine ⟨⟨?_, by rw [er]; exact hL⟩, er⟩
  rw [d7']
  obtain ⟨a, ea, hal, hd⟩ := h7
  have : (l.drop a).length = 0 := by rw [hd]; rfl
  rw [List.length_drop] at this
  rw [show (many (dpl l) e.added.length (dnum l (many (dgone l) e.gone.length (dec4 l).2).2 256).2).2 = some a from ea]
  congr 1
  omega
/-! ### The other way -/
/-- From o to b the bytes k were read. -/
def Came (l : List UInt8) (o : Option Nat) (b : Nat) (k : List UInt8) : Prop := ∃ a, o = some a ∧ a ≤ l.length ∧ b ≤ l.length ∧ l.take b = l.take a ++ k
theorem Came.trans {l k m : List UInt8} {o : Option Nat} {b c : Nat} (h : Came l o b k) (g : Came l (some b) c m) : Came l o c (k ++ m) := by
  obtain ⟨a, rfl, h1, h2, h3⟩ := h
  obtain ⟨b', e, g1, g2, g3⟩ := g
  injection e with e
  subst e
  exact ⟨a, rfl, h1, g2, by rw [g3, h3, List.append_assoc]⟩
theorem Came.eq {l k : List UInt8} {o o' : Option Nat} {b : Nat} (h : Came l o b k) (e : o = o') : Came l o' b k := e ▸ h
theorem take_more (l : List UInt8) (a k : Nat) : l.take (a + k) = l.take a ++ (l.drop a).take k := by rw [List.take_add]
theorem num_came {l : List UInt8} {o : Option Nat} {most b : Nat} (ho : OkAt l o) (h : (dnum l o most).2 = some b) : Came l o b (Code.uvar (dnum l o most).1) := by
  cases o with
  | none => cases h
  | some a =>
    have ha := ho a rfl
    unfold dnum at h ⊢
    simp only at h ⊢
    split at h
    · rename_i hc
      rw [if_pos hc]
      simp only at h ⊢
      injection h with h
      have hk := Code.rd_size (l.drop a)
      rw [List.length_drop] at hk
      refine ⟨a, rfl, ha, by omega, ?_⟩
      rw [← h, take_more, Code.put_uint _ hc.1]
    · cases h
theorem txt_came {l : List UInt8} {o : Option Nat} {b : Nat} (ho : OkAt l o) (h : (dtxt l o).2 = some b) : Came l o b (fldB ⟨(dtxt l o).1.toArray⟩) := by
  cases o with
  | none => cases h
  | some a =>
    have ha := ho a rfl
    unfold dtxt at h ⊢
    simp only at h ⊢
    split at h
    · rename_i hc
      rw [if_pos hc]
      simp only at h ⊢
      injection h with h
      have hk := rdf_err (l.drop a) 520
      rw [List.length_drop] at hk
      refine ⟨a, rfl, ha, by omega, ?_⟩
      rw [← h, take_more, ← (Code.put_field _ _ hc).2.2]
      unfold fldB
      have e : (⟨(Code.rdField (l.drop a) 520).1.toArray⟩ : ByteArray).size = (Code.rdField (l.drop a) 520).1.length := by
        show (Code.rdField (l.drop a) 520).1.toArray.size = _
        simp
      rw [e]
    · cases h
theorem dnum_some {l : List UInt8} {o : Option Nat} {m b : Nat} (h : (dnum l o m).2 = some b) : ∃ a, o = some a := by
  cases o with
  | none => cases h
  | some a => exact ⟨a, rfl⟩
theorem dtxt_some {l : List UInt8} {o : Option Nat} {b : Nat} (h : (dtxt l o).2 = some b) : ∃ a, o = some a := by
  cases o with
  | none => cases h
  | some a => exact ⟨a, rfl⟩
theorem num_step {l : List UInt8} {o : Option Nat} {m b : Nat} {k : List UInt8} {o0 : Option Nat} (ho : OkAt l o) (h : (dnum l o m).2 = some b) (hp : ∀ a, o = some a → Came l o0 a k) : Came l o0 b (k ++ Code.uvar (dnum l o m).1) := by
  have h1 := num_came ho h
  obtain ⟨a, rfl⟩ := dnum_some h
  exact (hp a rfl).trans h1
theorem txt_step {l : List UInt8} {o : Option Nat} {b : Nat} {k : List UInt8} {o0 : Option Nat} (ho : OkAt l o) (h : (dtxt l o).2 = some b) (hp : ∀ a, o = some a → Came l o0 a k) : Came l o0 b (k ++ fldB ⟨(dtxt l o).1.toArray⟩) := by
  have h1 := txt_came ho h
  obtain ⟨a, rfl⟩ := dtxt_some h
  exact (hp a rfl).trans h1
theorem came_refl {l : List UInt8} {o : Option Nat} (ho : OkAt l o) : ∀ a, o = some a → Came l o a [] := fun a ha => ⟨a, ha, ho a ha, ho a ha, by simp⟩
theorem toNat_cast (n : Nat) : ((n : Int)).toNat = n := by omega
theorem gone_came {l : List UInt8} {o : Option Nat} {b : Nat} (ho : OkAt l o) (h : (dgone l o).2 = some b) : Came l o b (encG (dgone l o).1) := by
  unfold dgone at h ⊢
  simp only at h ⊢
  unfold encG
  simp only [toNat_cast]
  exact num_step (dnum_ok ho) h (fun a ha => num_came ho ha)
theorem pl_came {l : List UInt8} {o : Option Nat} {b : Nat} (ho : OkAt l o) (h : (dpl l o).2 = some b) : Came l o b (encP (dpl l o).1) := by
  rw [encP_eq]
  unfold dpl dmeta at h ⊢
  simp only at h ⊢
  simp only [toNat_cast]
  have k1 := dnum_ok (most := 3) ho
  have k2 := dnum_ok (most := mostN) k1
  have k3 := dnum_ok (most := 262144) k2
  have k4 := dnum_ok (most := 262144) k3
  have k5 := dtxt_ok k4
  have k6 := dtxt_ok k5
  have k7 := dnum_ok (most := mostN) k6
  have := num_step k7 h (fun a7 h7 => num_step k6 h7 (fun a6 h6 => txt_step k5 h6 (fun a5 h5 => txt_step k4 h5 (fun a4 h4 => num_step k3 h4 (fun a3 h3 => num_step k2 h3 (fun a2 h2 => num_step k1 h2 (fun a1 h1 => num_came ho h1)))))))
  simpa only [List.append_assoc] using this
theorem many_came {α : Type} {l : List UInt8} (rd : Option Nat → α × Option Nat) (enc : α → List UInt8) (hok : ∀ o, OkAt l o → OkAt l (rd o).2) (hrd : ∀ o b, OkAt l o → (rd o).2 = some b → Came l o b (enc (rd o).1)) (hn : (rd none).2 = none) {o : Option Nat} (ho : OkAt l o) :
    ∀ n b, (many rd n o).2 = some b → OkAt l (many rd n o).2 ∧ Came l o b ((many rd n o).1.flatMap enc)
  | 0, b, h => ⟨ho, came_refl ho b h⟩
  | n + 1, b, h => by
    have h' : (rd (many rd n o).2).2 = some b := h
    cases hm : (many rd n o).2 with
    | none => rw [hm, hn] at h'; cases h'
    | some a =>
      obtain ⟨k1, k2⟩ := many_came rd enc hok hrd hn ho n a hm
      have k3 := hrd _ _ k1 h'
      rw [hm] at k3
      refine ⟨hok _ k1, ?_⟩
      show Came l o b (((many rd n o).1 ++ [(rd (many rd n o).2).1]).flatMap enc)
      rw [List.flatMap_append]
      have := k2.trans k3
      rw [hm]
      simpa using this
/-- Bytes that are read are written so. -/
theorem enc_dec {l : List UInt8} (h : DecP l) : encE (decRaw l) = l := by
  have k0 : OkAt l (some 0) := fun a ha => by injection ha with ha; omega
  have k1 : OkAt l (dec1 l).2 := dnum_ok k0
  have k2 : OkAt l (dec2 l).2 := dnum_ok k1
  have k3 : OkAt l (dec3 l).2 := dnum_ok k2
  have k4 : OkAt l (dec4 l).2 := dnum_ok k3
  have hgo : ∀ o, OkAt l o → OkAt l (dgone l o).2 := fun o h => dnum_ok (dnum_ok h)
  have hpo : ∀ o, OkAt l o → OkAt l (dpl l o).2 := fun o h => dnum_ok (dnum_ok (dtxt_ok (dtxt_ok (dnum_ok (dnum_ok (dnum_ok (dnum_ok h)))))))
  have k5 : OkAt l (dec5 l).2 := by
    have : ∀ n, OkAt l (many (dgone l) n (dec4 l).2).2 := fun n => by
      induction n with
      | zero => exact k4
      | succ n ih => exact hgo _ ih
    exact this _
  have k6 : OkAt l (dec6 l).2 := dnum_ok k5
  have hno : ∀ {α : Type} (rd : Option Nat → α × Option Nat) (n : Nat), (rd none).2 = none → (many rd n none).2 = none := fun rd n hr => by
    induction n with
    | zero => rfl
    | succ n ih => show (rd (many rd n none).2).2 = none; rw [ih, hr]
  have h7 := h.1
  obtain ⟨a6, h6⟩ : ∃ a, (dec6 l).2 = some a := by
    cases e : (dec6 l).2 with
    | none => unfold dec7 at h7; rw [e, hno _ _ (dpl_none l)] at h7; cases h7
    | some a => exact ⟨a, rfl⟩
  obtain ⟨a5, h5⟩ := dnum_some h6
  obtain ⟨a4, h4⟩ : ∃ a, (dec4 l).2 = some a := by
    cases e : (dec4 l).2 with
    | none => unfold dec5 at h5; rw [e, hno _ _ (dgone_none l)] at h5; cases h5
    | some a => exact ⟨a, rfl⟩
  have c4 := num_step k3 h4 (fun a3 h3 => num_step k2 h3 (fun a2 h2 => num_step k1 h2 (fun a1 h1 => num_came k0 h1)))
  have c5 : Came l (dec4 l).2 a5 ((dec5 l).1.flatMap encG) := (many_came (dgone l) encG hgo (fun o b => gone_came) (dgone_none l) k4 _ a5 h5).2
  have c6 : Came l (dec5 l).2 a6 (Code.uvar (dec6 l).1) := num_came k5 h6
  have c7 : Came l (dec6 l).2 l.length ((dec7 l).1.flatMap encP) := (many_came (dpl l) encP hpo (fun o b => pl_came) (dpl_none l) k6 _ l.length h7).2
  obtain ⟨a, ea, _, _, ht⟩ := ((c4.trans (c5.eq h4)).trans (c6.eq h5)).trans (c7.eq h6)
  injection ea with ea
  subst ea
  rw [List.take_length, List.take_zero, List.nil_append] at ht
  have g5 : (decRaw l).gone.length = (dec4 l).1 := many_len _ _ _
  have g7 : (decRaw l).added.length = (dec6 l).1 := many_len _ _ _
  refine Eq.trans ?_ ht.symm
  unfold encE
  rw [g5, g7]
  simp only [List.append_assoc]
  rfl
theorem decRaw_lens {l : List UInt8} : (decRaw l).gone.length ≤ 256 ∧ (decRaw l).added.length ≤ 256 := ⟨by rw [show (decRaw l).gone.length = (dec4 l).1 from many_len _ _ _]; exact dnum_le _ _ _, by rw [show (decRaw l).added.length = (dec6 l).1 from many_len _ _ _]; exact dnum_le _ _ _⟩
theorem many_all {α : Type} (rd : Option Nat → α × Option Nat) (P : α → Prop) (h : ∀ o, P (rd o).1) (n : Nat) (o : Option Nat) : ∀ x ∈ (many rd n o).1, P x := by
  induction n with
  | zero => intro x hx; cases hx
  | succ n ih =>
    intro x hx
    rcases List.mem_append.1 hx with h1 | h1
    · exact ih x h1
    · rw [List.mem_singleton] at h1; subst h1; exact h _
theorem decRaw_in (l : List UInt8) : EdIn (decRaw l) := by
  have wf : ∀ n : Nat, n ≤ 262144 → (Lit.int .i64 (n : Int)).wf = true := fun n hn => by simp [Lit.wf, IntKind.min, IntKind.max, IntKind.signed, IntKind.bits]; omega
  have tx : ∀ o, (⟨(dtxt l o).1.toArray⟩ : ByteArray).size ≤ 281474976710656 := fun o => by
    have h1 := dtxt_le l o
    have h2 : (⟨(dtxt l o).1.toArray⟩ : ByteArray).size = (dtxt l o).1.length := by show (dtxt l o).1.toArray.size = _; simp
    omega
  refine ⟨dnum_le _ _ _, dnum_le _ _ _, dnum_le _ _ _, many_all _ _ (fun o => ?_) _ _, many_all _ _ (fun o => ?_) _ _⟩
  · exact ⟨wf _ (Nat.le_trans (dnum_le _ _ _) (by omega)), dnum_le _ _ _⟩
  · exact ⟨wf _ (Nat.le_trans (dnum_le _ _ _) (by omega)), dnum_le _ _ _, tx _, tx _, dnum_le _ _ _, dnum_le _ _ _, wf _ (dnum_le _ _ _), wf _ (dnum_le _ _ _)⟩
end Go.Proofs.Ythkdijapmamdbaa
