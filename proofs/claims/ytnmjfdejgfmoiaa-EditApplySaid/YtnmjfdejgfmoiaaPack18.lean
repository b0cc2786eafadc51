/-
  The contract of the document's Apply. Condition: at most 1000 in each list of the edit.
-/
import Derived.Test.YtnmjfdejgfmoiaaPack17
namespace Go.Proofs.Ytnmjfdejgfmoiaa
set_option maxRecDepth 100000
open Go Go.RowKit
/-- The document's Apply under way: its own boxes, and the levels as they are now. -/
structure RaI (v : Vr) (e : Ed) (H : Nat → Hd) (hg ha : Hd) (p : Nat) (L : Nat → List Mt) (K : Nat → Hd) (w wr : World) : Prop where
  ver : VerB p (madeV v e L) K wr
  arg : VerB w.heap.size v H wr
  ed : EdB (w.heap.size + 1) e hg ha wr
  z : VerB (w.heap.size + 1 + 1) zeroV noHd wr
  lv : ∀ i, i < 4 → Ms (K i) (L i) wr
  f : Below w.heap.size w wr
  lo : w.heap.size + 3 ≤ p
section
variable {v : Vr} {e : Ed} {H : Nat → Hd} {hg ha : Hd} {p : Nat} {L : Nat → List Mt} {K : Nat → Hd} {w wr : World}
theorem RaI.below {u : World} (h : RaI v e H hg ha p L K w wr) (hb : Below wr.heap.size wr u) : RaI v e H hg ha p L K w u :=
  ⟨h.ver.below hb, h.arg.below hb, h.ed.below hb, h.z.below hb, fun i hi => (h.lv i hi).below hb, below_of h.f hb, h.lo⟩
theorem RaI.congr {L' : Nat → List Mt} (h : RaI v e H hg ha p L K w wr) (he : ∀ i, i < 4 → L i = L' i) : RaI v e H hg ha p L' K w wr :=
  ⟨h.ver, h.arg, h.ed, h.z, fun i hi => by rw [← he i hi]; exact h.lv i hi, h.f, h.lo⟩
theorem RaI.set (h : RaI v e H hg ha p L K w wr) {i : Nat} (hi : i < 4) {k : Hd} {l : List Mt} (hk : Ms k l wr) : RaI v e H hg ha p (upL L i l) (upH K i k) w (wr.setCell ⟨p, 3 + i, none⟩ (.slice k.a k.n k.c)) := by
  have hset : VerB p (madeV v e L) (fun j => if j = i then k else K j) (wr.setCell ⟨p, 3 + i, none⟩ (hdV k)) := ver_set h.ver hi k
  have hlo := h.lo
  refine ⟨hset, (heap_setCell_other _ _ _ _ (by show w.heap.size ≠ p; omega)).trans h.arg, (heap_setCell_other _ _ _ _ (by show w.heap.size + 1 ≠ p; omega)).trans h.ed, (heap_setCell_other _ _ _ _ (by show w.heap.size + 1 + 1 ≠ p; omega)).trans h.z, fun j hj => ?_, h.f.setCell (p := ⟨p, 3 + i, none⟩) (by show w.heap.size ≤ p; omega) _, h.lo⟩
  by_cases e1 : j = i
  · subst e1
    rw [upL_same, upH_same]
    exact ⟨hk.sl.keep (fun h0 => heap_setCell_other _ _ _ _ (h.ver.nems hk h0)) (by rw [World.size_setCell]; exact Nat.le_refl _), hk.none'⟩
  · rw [upL_other _ _ e1, upH_other _ _ e1]
    have m := h.lv j hj
    exact ⟨m.sl.keep (fun h0 => heap_setCell_other _ _ _ _ (h.ver.nems m h0)) (by rw [World.size_setCell]; exact Nat.le_refl _), m.none'⟩
theorem RaI.new {u : World} (hv : VerB w.heap.size v H u) (he : EdB (w.heap.size + 1) e hg ha u) (hz : VerB (w.heap.size + 1 + 1) zeroV noHd u) (hb : Below w.heap.size w u) (hs : w.heap.size + 3 ≤ u.heap.size) :
    RaI v e H hg ha u.heap.size (fun _ => []) noHd w (u.alloc (verO (madeV v e (fun _ => [])) noHd)) :=
  ⟨VerB.new _ _ _, hv.below (below_alloc _ _), he.below (below_alloc _ _), hz.below (below_alloc _ _), fun i _ => Ms.nil _, below_of hb (below_alloc _ _), hs⟩
end
theorem num3 (x y : Nat) : (((x : Int) != 0) = false ∧ ¬ BelP x y) ∨ (((x : Int) != 0) = true ∧ decide (x < y) = true ∧ BelP x y) ∨ (((x : Int) != 0) = true ∧ decide (x < y) = false ∧ ¬ BelP x y) := by
  unfold BelP
  by_cases h0 : x = 0
  · exact .inl ⟨by rw [h0]; rfl, fun h => h.1 h0⟩
  · have h2 : ((x : Int) != 0) = true := by rw [bne_iff_ne]; omega
    by_cases h1 : x < y
    · exact .inr (.inl ⟨h2, decide_eq_true h1, h0, h1⟩)
    · exact .inr (.inr ⟨h2, decide_eq_false h1, fun h => h1 h.2⟩)
theorem max_or {a b : Nat} (h : ¬ BelP b a) : (if (b : Int) > (a : Int) then (b : Int) else (a : Int)) = ((orN b a : Nat) : Int) := by
  unfold BelP at h
  unfold orN
  by_cases h0 : b = 0
  · rw [if_neg (by omega), if_pos h0]
  · rw [if_neg h0]
    split
    · rfl
    · have : ¬ b < a := fun q => h ⟨h0, q⟩
      omega
def lvUp (v : Vr) (j : Nat) : Nat → List Mt := fun i => if i < j then v.lv i else []
theorem lvUp_succ (v : Vr) (j i : Nat) : upL (lvUp v j) j (v.lv j) i = lvUp v (j + 1) i := by
  unfold upL lvUp
  by_cases h1 : i = j
  · subst h1; rw [if_pos rfl, if_pos (by omega)]
  · rw [if_neg h1]
    by_cases h2 : i < j
    · rw [if_pos h2, if_pos (by omega)]
    · rw [if_neg h2, if_neg (by omega)]
/-- What the document's Apply comes to. -/
def RefD (v : Vr) (e : Ed) (r : Ending) (w' : World) : Prop :=
  (ArgP v e ∧ r = .returned (.tuple #[zV, .int .i64 2])) ∨ (¬ ArgP v e ∧
    ((¬ NoneP v e ∧ r = .returned (.tuple #[zV, .int .i64 4])) ∨ (NoneP v e ∧ ¬ ThereP v e ∧ r = .returned (.tuple #[zV, .int .i64 5])) ∨
     (NoneP v e ∧ ThereP v e ∧ ∃ M, PutTo e.added (outLv v e) e.added.length M ∧ ((RightP (madeV v e M) ∧ ∃ G, r = .returned (.tuple #[verV (madeV v e M) G, .int .i64 0]) ∧ VrAt (madeV v e M) G w') ∨ (¬ RightP (madeV v e M) ∧ r = .returned (.tuple #[zV, .int .i64 11]))))))
theorem put_len {v : Vr} {e : Ed} {M : Nat → List Mt} {k i : Nat} (h : PutTo e.added (outLv v e) k M) (hr : RightP v) (hk : k ≤ 1000) (hi : i < 4) : (M i).length ≤ 1999 := by
  rw [(h i hi).1.length_eq]
  have := addTo_len (ps := e.added) (k := k) (L := outLv v e) (i := i) (Nat.le_trans (outLv_len hi) (Nat.le_trans (hr.2 i hi).1 (by omega))) hk
  omega
theorem put_in {v : Vr} {e : Ed} {M : Nat → List Mt} {k : Nat} (h : PutTo e.added (outLv v e) k M) (hI : VrIn v) (iE : EdIn e) : NumsIn (madeV v e M) := fun i hi x hx => by
  have h1 := (h i hi).1.mem_iff.1 hx
  unfold addTo at h1
  rcases List.mem_append.1 h1 with h2 | h2
  · exact (hI.2.2.2 i hi x (outLv_sub hi x h2)).1
  · obtain ⟨q, hq, rfl⟩ := List.mem_map.1 h2
    exact (iE.2.2.2.2 q (List.mem_of_mem_take (List.mem_filter.1 hq).1)).2.1
set_option maxRecDepth 100000 in
set_option maxHeartbeats 16000000 in
theorem rapply_any {v : Vr} {H : Nat → Hd} {e : Ed} {hg ha : Hd} {w : World} (hM : VrAt v H w) (hI : VrIn v) (hE : EdAt e hg ha w) (iE : EdIn e) (hgn : hg.n ≤ 1000) (han : ha.n ≤ 1000) :
    Calls Try.prog 9 #[verV v H, edV e hg ha] w fun r w' => RefD v e r w' ∧ Below w.heap.size w w' := by
  obtain ⟨V0, E0, Z0, B0⟩ := z_at (w := w) (v := v) (H := H) (e := e) (hg := hg) (ha := ha)
  have RC := Lib.hid (fun u (hu : Below w.heap.size w u) => rright_any (hM.below hu) (fun i hi x hx => (hI.2.2.2 i hi x hx).1))
  have LC := Lib.hid (fun u (hu : Below w.heap.size w u) => rlisted_any (hE.below hu))
  have KP := Lib.hid (fun u (hu : Below (((w.alloc (verO v H)).alloc (edO e hg ha)).alloc (zO)).heap.size (((w.alloc (verO v H)).alloc (edO e hg ha)).alloc (zO)) u) => (⟨V0.below hu, E0.below hu, Z0.below hu, below_of B0 hu⟩ : VerB w.heap.size v H u ∧ EdB (w.heap.size + 1) e hg ha u ∧ VerB (w.heap.size + 1 + 1) zeroV noHd u ∧ Below w.heap.size w u))
  have KS : Hid (∀ u, Below (((w.alloc (verO v H)).alloc (edO e hg ha)).alloc (zO)).heap.size (((w.alloc (verO v H)).alloc (edO e hg ha)).alloc (zO)) u → w.heap.size + 3 ≤ u.heap.size) := Lib.hid (fun u hu => by have := hu.size; simp only [World.size_alloc] at this; omega)
  have VM := Lib.hid (fun u (hu : Below w.heap.size w u) i (hi : i < 4) => (hM i hi).below hu)
  have GM := Lib.hid (fun u (hu : Below w.heap.size w u) => hE.gone.below hu)
  have AM := Lib.hid (fun u (hu : Below w.heap.size w u) => hE.added.below hu)
  have hI := Lib.hid hI
  have iE := Lib.hid iE
  have B00 := Lib.hid B0
  obtain ⟨T, hT⟩ := named (tf (ArgP v e))
  replace hT := Lib.hid hT.out
  obtain ⟨v0, v1, v2, v3, v4, v5, v6⟩ := V0.cells
  obtain ⟨e0, e1, e2, e3, e4⟩ := E0.cells
  clear hM hE V0 E0 Z0 B0
  go_enter Try.func9, Try.ntmps9
  go_upto_region 1 with fail
  obtain ⟨U, hU⟩ := named (((w.alloc (verO v H)).alloc (edO e hg ha)).alloc (zO))
  rw [← hU.out] at KP KS B00 v0 v1 v2 v3 v4 v5 v6 e0 e1 e2 e3 e4
  rw [← hU.out]
  replace hU := Lib.hid trivial
  go_cut [59] from 16 to 59 (fun b wc => b = .bool T ∧ Hid (Below U.heap.size U wc))
  case first =>
    by_cases hR : RightP v
    rotate_left 1
    · have hTT : Hid (T = true) := Lib.hid (by rw [hT.out]; exact tf_true (.inl hR))
      rw [tf_false hR] at RC
      clear hR
      go_wp2_with ((go_at_call 20; ((with_reducible refine (RC.out _ B00.out).mono ?_); rintro r w1 ⟨rfl, hb1⟩; have K1 := Lib.hid (KP.out _ hb1); have L1 := Lib.hid hb1; clear hb1; obtain ⟨v0, v1, v2, v3, v4, v5, v6⟩ := K1.out.1.cells; obtain ⟨e0, e1, e2, e3, e4⟩ := K1.out.2.1.cells)))
      go_meet
      exact ⟨by rw [hTT.out], L1⟩
    rw [tf_true hR] at RC
    rcases num3 e.log v.log with ⟨a1, p1⟩ | ⟨a1, b1, p1⟩ | ⟨a1, b1, p1⟩
    · rcases num3 e.next v.next with ⟨a2, p2⟩ | ⟨a2, b2, p2⟩ | ⟨a2, b2, p2⟩
      · rcases num3 e.seq v.seq with ⟨a3, p3⟩ | ⟨a3, b3, p3⟩ | ⟨a3, b3, p3⟩
        · by_cases hL : ListedP e
          · have hTT : Hid (T = false) := Lib.hid (by rw [hT.out]; exact tf_false (fun h => by rcases h with h | h | h | h | h <;> first | exact h hR | exact p1 h | exact p2 h | exact p3 h | exact h hL))
            rw [tf_true hL] at LC
            clear hR hL p1 p2 p3
            go_wp2_with (first | (go_at_call 21; ((with_reducible refine (LC.out _ K1.out.2.2.2).mono ?_); rintro r w3 ⟨rfl, hb3⟩; have L3 := Lib.hid (L1.out.trans (hb3.mono L1.out.size)); clear hb3)) | (go_at_call 20; ((with_reducible refine (RC.out _ B00.out).mono ?_); rintro r w1 ⟨rfl, hb1⟩; have K1 := Lib.hid (KP.out _ hb1); have L1 := Lib.hid hb1; clear hb1; obtain ⟨v0, v1, v2, v3, v4, v5, v6⟩ := K1.out.1.cells; obtain ⟨e0, e1, e2, e3, e4⟩ := K1.out.2.1.cells)))
            go_meet
            exact ⟨by rw [hTT.out], L3⟩
          · have hTT : Hid (T = true) := Lib.hid (by rw [hT.out]; exact tf_true (.inr (.inr (.inr (.inr hL)))))
            rw [tf_false hL] at LC
            clear hR hL p1 p2 p3
            go_wp2_with (first | (go_at_call 21; ((with_reducible refine (LC.out _ K1.out.2.2.2).mono ?_); rintro r w3 ⟨rfl, hb3⟩; have L3 := Lib.hid (L1.out.trans (hb3.mono L1.out.size)); clear hb3)) | (go_at_call 20; ((with_reducible refine (RC.out _ B00.out).mono ?_); rintro r w1 ⟨rfl, hb1⟩; have K1 := Lib.hid (KP.out _ hb1); have L1 := Lib.hid hb1; clear hb1; obtain ⟨v0, v1, v2, v3, v4, v5, v6⟩ := K1.out.1.cells; obtain ⟨e0, e1, e2, e3, e4⟩ := K1.out.2.1.cells)))
            go_meet
            exact ⟨by rw [hTT.out], L3⟩
        · have hTT : Hid (T = true) := Lib.hid (by rw [hT.out]; exact tf_true (.inr (.inr (.inr (.inl p3)))))
          clear hR p1 p2 p3
          go_wp2_with ((go_at_call 20; ((with_reducible refine (RC.out _ B00.out).mono ?_); rintro r w1 ⟨rfl, hb1⟩; have K1 := Lib.hid (KP.out _ hb1); have L1 := Lib.hid hb1; clear hb1; obtain ⟨v0, v1, v2, v3, v4, v5, v6⟩ := K1.out.1.cells; obtain ⟨e0, e1, e2, e3, e4⟩ := K1.out.2.1.cells)))
          go_meet
          exact ⟨by rw [hTT.out] <;> simp [b3], L1⟩
        · by_cases hL : ListedP e
          · have hTT : Hid (T = false) := Lib.hid (by rw [hT.out]; exact tf_false (fun h => by rcases h with h | h | h | h | h <;> first | exact h hR | exact p1 h | exact p2 h | exact p3 h | exact h hL))
            rw [tf_true hL] at LC
            clear hR hL p1 p2 p3
            go_wp2_with (first | (go_at_call 21; ((with_reducible refine (LC.out _ K1.out.2.2.2).mono ?_); rintro r w3 ⟨rfl, hb3⟩; have L3 := Lib.hid (L1.out.trans (hb3.mono L1.out.size)); clear hb3)) | (go_at_call 20; ((with_reducible refine (RC.out _ B00.out).mono ?_); rintro r w1 ⟨rfl, hb1⟩; have K1 := Lib.hid (KP.out _ hb1); have L1 := Lib.hid hb1; clear hb1; obtain ⟨v0, v1, v2, v3, v4, v5, v6⟩ := K1.out.1.cells; obtain ⟨e0, e1, e2, e3, e4⟩ := K1.out.2.1.cells)))
            go_meet
            exact ⟨by rw [hTT.out] <;> simp [b3], L3⟩
          · have hTT : Hid (T = true) := Lib.hid (by rw [hT.out]; exact tf_true (.inr (.inr (.inr (.inr hL)))))
            rw [tf_false hL] at LC
            clear hR hL p1 p2 p3
            go_wp2_with (first | (go_at_call 21; ((with_reducible refine (LC.out _ K1.out.2.2.2).mono ?_); rintro r w3 ⟨rfl, hb3⟩; have L3 := Lib.hid (L1.out.trans (hb3.mono L1.out.size)); clear hb3)) | (go_at_call 20; ((with_reducible refine (RC.out _ B00.out).mono ?_); rintro r w1 ⟨rfl, hb1⟩; have K1 := Lib.hid (KP.out _ hb1); have L1 := Lib.hid hb1; clear hb1; obtain ⟨v0, v1, v2, v3, v4, v5, v6⟩ := K1.out.1.cells; obtain ⟨e0, e1, e2, e3, e4⟩ := K1.out.2.1.cells)))
            go_meet
            exact ⟨by rw [hTT.out] <;> simp [b3], L3⟩
      · have hTT : Hid (T = true) := Lib.hid (by rw [hT.out]; exact tf_true (.inr (.inr (.inl p2))))
        clear hR p1 p2
        go_wp2_with ((go_at_call 20; ((with_reducible refine (RC.out _ B00.out).mono ?_); rintro r w1 ⟨rfl, hb1⟩; have K1 := Lib.hid (KP.out _ hb1); have L1 := Lib.hid hb1; clear hb1; obtain ⟨v0, v1, v2, v3, v4, v5, v6⟩ := K1.out.1.cells; obtain ⟨e0, e1, e2, e3, e4⟩ := K1.out.2.1.cells)))
        go_meet
        exact ⟨by rw [hTT.out] <;> simp [b2], L1⟩
      · rcases num3 e.seq v.seq with ⟨a3, p3⟩ | ⟨a3, b3, p3⟩ | ⟨a3, b3, p3⟩
        · by_cases hL : ListedP e
          · have hTT : Hid (T = false) := Lib.hid (by rw [hT.out]; exact tf_false (fun h => by rcases h with h | h | h | h | h <;> first | exact h hR | exact p1 h | exact p2 h | exact p3 h | exact h hL))
            rw [tf_true hL] at LC
            clear hR hL p1 p2 p3
            go_wp2_with (first | (go_at_call 21; ((with_reducible refine (LC.out _ K1.out.2.2.2).mono ?_); rintro r w3 ⟨rfl, hb3⟩; have L3 := Lib.hid (L1.out.trans (hb3.mono L1.out.size)); clear hb3)) | (go_at_call 20; ((with_reducible refine (RC.out _ B00.out).mono ?_); rintro r w1 ⟨rfl, hb1⟩; have K1 := Lib.hid (KP.out _ hb1); have L1 := Lib.hid hb1; clear hb1; obtain ⟨v0, v1, v2, v3, v4, v5, v6⟩ := K1.out.1.cells; obtain ⟨e0, e1, e2, e3, e4⟩ := K1.out.2.1.cells)))
            go_meet
            exact ⟨by rw [hTT.out] <;> simp [b2], L3⟩
          · have hTT : Hid (T = true) := Lib.hid (by rw [hT.out]; exact tf_true (.inr (.inr (.inr (.inr hL)))))
            rw [tf_false hL] at LC
            clear hR hL p1 p2 p3
            go_wp2_with (first | (go_at_call 21; ((with_reducible refine (LC.out _ K1.out.2.2.2).mono ?_); rintro r w3 ⟨rfl, hb3⟩; have L3 := Lib.hid (L1.out.trans (hb3.mono L1.out.size)); clear hb3)) | (go_at_call 20; ((with_reducible refine (RC.out _ B00.out).mono ?_); rintro r w1 ⟨rfl, hb1⟩; have K1 := Lib.hid (KP.out _ hb1); have L1 := Lib.hid hb1; clear hb1; obtain ⟨v0, v1, v2, v3, v4, v5, v6⟩ := K1.out.1.cells; obtain ⟨e0, e1, e2, e3, e4⟩ := K1.out.2.1.cells)))
            go_meet
            exact ⟨by rw [hTT.out] <;> simp [b2], L3⟩
        · have hTT : Hid (T = true) := Lib.hid (by rw [hT.out]; exact tf_true (.inr (.inr (.inr (.inl p3)))))
          clear hR p1 p2 p3
          go_wp2_with ((go_at_call 20; ((with_reducible refine (RC.out _ B00.out).mono ?_); rintro r w1 ⟨rfl, hb1⟩; have K1 := Lib.hid (KP.out _ hb1); have L1 := Lib.hid hb1; clear hb1; obtain ⟨v0, v1, v2, v3, v4, v5, v6⟩ := K1.out.1.cells; obtain ⟨e0, e1, e2, e3, e4⟩ := K1.out.2.1.cells)))
          go_meet
          exact ⟨by rw [hTT.out] <;> simp [b2, b3], L1⟩
        · by_cases hL : ListedP e
          · have hTT : Hid (T = false) := Lib.hid (by rw [hT.out]; exact tf_false (fun h => by rcases h with h | h | h | h | h <;> first | exact h hR | exact p1 h | exact p2 h | exact p3 h | exact h hL))
            rw [tf_true hL] at LC
            clear hR hL p1 p2 p3
            go_wp2_with (first | (go_at_call 21; ((with_reducible refine (LC.out _ K1.out.2.2.2).mono ?_); rintro r w3 ⟨rfl, hb3⟩; have L3 := Lib.hid (L1.out.trans (hb3.mono L1.out.size)); clear hb3)) | (go_at_call 20; ((with_reducible refine (RC.out _ B00.out).mono ?_); rintro r w1 ⟨rfl, hb1⟩; have K1 := Lib.hid (KP.out _ hb1); have L1 := Lib.hid hb1; clear hb1; obtain ⟨v0, v1, v2, v3, v4, v5, v6⟩ := K1.out.1.cells; obtain ⟨e0, e1, e2, e3, e4⟩ := K1.out.2.1.cells)))
            go_meet
            exact ⟨by rw [hTT.out] <;> simp [b2, b3], L3⟩
          · have hTT : Hid (T = true) := Lib.hid (by rw [hT.out]; exact tf_true (.inr (.inr (.inr (.inr hL)))))
            rw [tf_false hL] at LC
            clear hR hL p1 p2 p3
            go_wp2_with (first | (go_at_call 21; ((with_reducible refine (LC.out _ K1.out.2.2.2).mono ?_); rintro r w3 ⟨rfl, hb3⟩; have L3 := Lib.hid (L1.out.trans (hb3.mono L1.out.size)); clear hb3)) | (go_at_call 20; ((with_reducible refine (RC.out _ B00.out).mono ?_); rintro r w1 ⟨rfl, hb1⟩; have K1 := Lib.hid (KP.out _ hb1); have L1 := Lib.hid hb1; clear hb1; obtain ⟨v0, v1, v2, v3, v4, v5, v6⟩ := K1.out.1.cells; obtain ⟨e0, e1, e2, e3, e4⟩ := K1.out.2.1.cells)))
            go_meet
            exact ⟨by rw [hTT.out] <;> simp [b2, b3], L3⟩
    · have hTT : Hid (T = true) := Lib.hid (by rw [hT.out]; exact tf_true (.inr (.inl p1)))
      clear hR p1
      go_wp2_with ((go_at_call 20; ((with_reducible refine (RC.out _ B00.out).mono ?_); rintro r w1 ⟨rfl, hb1⟩; have K1 := Lib.hid (KP.out _ hb1); have L1 := Lib.hid hb1; clear hb1; obtain ⟨v0, v1, v2, v3, v4, v5, v6⟩ := K1.out.1.cells; obtain ⟨e0, e1, e2, e3, e4⟩ := K1.out.2.1.cells)))
      go_meet
      exact ⟨by rw [hTT.out] <;> simp [b1], L1⟩
    · rcases num3 e.next v.next with ⟨a2, p2⟩ | ⟨a2, b2, p2⟩ | ⟨a2, b2, p2⟩
      · rcases num3 e.seq v.seq with ⟨a3, p3⟩ | ⟨a3, b3, p3⟩ | ⟨a3, b3, p3⟩
        · by_cases hL : ListedP e
          · have hTT : Hid (T = false) := Lib.hid (by rw [hT.out]; exact tf_false (fun h => by rcases h with h | h | h | h | h <;> first | exact h hR | exact p1 h | exact p2 h | exact p3 h | exact h hL))
            rw [tf_true hL] at LC
            clear hR hL p1 p2 p3
            go_wp2_with (first | (go_at_call 21; ((with_reducible refine (LC.out _ K1.out.2.2.2).mono ?_); rintro r w3 ⟨rfl, hb3⟩; have L3 := Lib.hid (L1.out.trans (hb3.mono L1.out.size)); clear hb3)) | (go_at_call 20; ((with_reducible refine (RC.out _ B00.out).mono ?_); rintro r w1 ⟨rfl, hb1⟩; have K1 := Lib.hid (KP.out _ hb1); have L1 := Lib.hid hb1; clear hb1; obtain ⟨v0, v1, v2, v3, v4, v5, v6⟩ := K1.out.1.cells; obtain ⟨e0, e1, e2, e3, e4⟩ := K1.out.2.1.cells)))
            go_meet
            exact ⟨by rw [hTT.out] <;> simp [b1], L3⟩
          · have hTT : Hid (T = true) := Lib.hid (by rw [hT.out]; exact tf_true (.inr (.inr (.inr (.inr hL)))))
            rw [tf_false hL] at LC
            clear hR hL p1 p2 p3
            go_wp2_with (first | (go_at_call 21; ((with_reducible refine (LC.out _ K1.out.2.2.2).mono ?_); rintro r w3 ⟨rfl, hb3⟩; have L3 := Lib.hid (L1.out.trans (hb3.mono L1.out.size)); clear hb3)) | (go_at_call 20; ((with_reducible refine (RC.out _ B00.out).mono ?_); rintro r w1 ⟨rfl, hb1⟩; have K1 := Lib.hid (KP.out _ hb1); have L1 := Lib.hid hb1; clear hb1; obtain ⟨v0, v1, v2, v3, v4, v5, v6⟩ := K1.out.1.cells; obtain ⟨e0, e1, e2, e3, e4⟩ := K1.out.2.1.cells)))
            go_meet
            exact ⟨by rw [hTT.out] <;> simp [b1], L3⟩
        · have hTT : Hid (T = true) := Lib.hid (by rw [hT.out]; exact tf_true (.inr (.inr (.inr (.inl p3)))))
          clear hR p1 p2 p3
          go_wp2_with ((go_at_call 20; ((with_reducible refine (RC.out _ B00.out).mono ?_); rintro r w1 ⟨rfl, hb1⟩; have K1 := Lib.hid (KP.out _ hb1); have L1 := Lib.hid hb1; clear hb1; obtain ⟨v0, v1, v2, v3, v4, v5, v6⟩ := K1.out.1.cells; obtain ⟨e0, e1, e2, e3, e4⟩ := K1.out.2.1.cells)))
          go_meet
          exact ⟨by rw [hTT.out] <;> simp [b1, b3], L1⟩
        · by_cases hL : ListedP e
          · have hTT : Hid (T = false) := Lib.hid (by rw [hT.out]; exact tf_false (fun h => by rcases h with h | h | h | h | h <;> first | exact h hR | exact p1 h | exact p2 h | exact p3 h | exact h hL))
            rw [tf_true hL] at LC
            clear hR hL p1 p2 p3
            go_wp2_with (first | (go_at_call 21; ((with_reducible refine (LC.out _ K1.out.2.2.2).mono ?_); rintro r w3 ⟨rfl, hb3⟩; have L3 := Lib.hid (L1.out.trans (hb3.mono L1.out.size)); clear hb3)) | (go_at_call 20; ((with_reducible refine (RC.out _ B00.out).mono ?_); rintro r w1 ⟨rfl, hb1⟩; have K1 := Lib.hid (KP.out _ hb1); have L1 := Lib.hid hb1; clear hb1; obtain ⟨v0, v1, v2, v3, v4, v5, v6⟩ := K1.out.1.cells; obtain ⟨e0, e1, e2, e3, e4⟩ := K1.out.2.1.cells)))
            go_meet
            exact ⟨by rw [hTT.out] <;> simp [b1, b3], L3⟩
          · have hTT : Hid (T = true) := Lib.hid (by rw [hT.out]; exact tf_true (.inr (.inr (.inr (.inr hL)))))
            rw [tf_false hL] at LC
            clear hR hL p1 p2 p3
            go_wp2_with (first | (go_at_call 21; ((with_reducible refine (LC.out _ K1.out.2.2.2).mono ?_); rintro r w3 ⟨rfl, hb3⟩; have L3 := Lib.hid (L1.out.trans (hb3.mono L1.out.size)); clear hb3)) | (go_at_call 20; ((with_reducible refine (RC.out _ B00.out).mono ?_); rintro r w1 ⟨rfl, hb1⟩; have K1 := Lib.hid (KP.out _ hb1); have L1 := Lib.hid hb1; clear hb1; obtain ⟨v0, v1, v2, v3, v4, v5, v6⟩ := K1.out.1.cells; obtain ⟨e0, e1, e2, e3, e4⟩ := K1.out.2.1.cells)))
            go_meet
            exact ⟨by rw [hTT.out] <;> simp [b1, b3], L3⟩
      · have hTT : Hid (T = true) := Lib.hid (by rw [hT.out]; exact tf_true (.inr (.inr (.inl p2))))
        clear hR p1 p2
        go_wp2_with ((go_at_call 20; ((with_reducible refine (RC.out _ B00.out).mono ?_); rintro r w1 ⟨rfl, hb1⟩; have K1 := Lib.hid (KP.out _ hb1); have L1 := Lib.hid hb1; clear hb1; obtain ⟨v0, v1, v2, v3, v4, v5, v6⟩ := K1.out.1.cells; obtain ⟨e0, e1, e2, e3, e4⟩ := K1.out.2.1.cells)))
        go_meet
        exact ⟨by rw [hTT.out] <;> simp [b1, b2], L1⟩
      · rcases num3 e.seq v.seq with ⟨a3, p3⟩ | ⟨a3, b3, p3⟩ | ⟨a3, b3, p3⟩
        · by_cases hL : ListedP e
          · have hTT : Hid (T = false) := Lib.hid (by rw [hT.out]; exact tf_false (fun h => by rcases h with h | h | h | h | h <;> first | exact h hR | exact p1 h | exact p2 h | exact p3 h | exact h hL))
            rw [tf_true hL] at LC
            clear hR hL p1 p2 p3
            go_wp2_with (first | (go_at_call 21; ((with_reducible refine (LC.out _ K1.out.2.2.2).mono ?_); rintro r w3 ⟨rfl, hb3⟩; have L3 := Lib.hid (L1.out.trans (hb3.mono L1.out.size)); clear hb3)) | (go_at_call 20; ((with_reducible refine (RC.out _ B00.out).mono ?_); rintro r w1 ⟨rfl, hb1⟩; have K1 := Lib.hid (KP.out _ hb1); have L1 := Lib.hid hb1; clear hb1; obtain ⟨v0, v1, v2, v3, v4, v5, v6⟩ := K1.out.1.cells; obtain ⟨e0, e1, e2, e3, e4⟩ := K1.out.2.1.cells)))
            go_meet
            exact ⟨by rw [hTT.out] <;> simp [b1, b2], L3⟩
          · have hTT : Hid (T = true) := Lib.hid (by rw [hT.out]; exact tf_true (.inr (.inr (.inr (.inr hL)))))
            rw [tf_false hL] at LC
            clear hR hL p1 p2 p3
            go_wp2_with (first | (go_at_call 21; ((with_reducible refine (LC.out _ K1.out.2.2.2).mono ?_); rintro r w3 ⟨rfl, hb3⟩; have L3 := Lib.hid (L1.out.trans (hb3.mono L1.out.size)); clear hb3)) | (go_at_call 20; ((with_reducible refine (RC.out _ B00.out).mono ?_); rintro r w1 ⟨rfl, hb1⟩; have K1 := Lib.hid (KP.out _ hb1); have L1 := Lib.hid hb1; clear hb1; obtain ⟨v0, v1, v2, v3, v4, v5, v6⟩ := K1.out.1.cells; obtain ⟨e0, e1, e2, e3, e4⟩ := K1.out.2.1.cells)))
            go_meet
            exact ⟨by rw [hTT.out] <;> simp [b1, b2], L3⟩
        · have hTT : Hid (T = true) := Lib.hid (by rw [hT.out]; exact tf_true (.inr (.inr (.inr (.inl p3)))))
          clear hR p1 p2 p3
          go_wp2_with ((go_at_call 20; ((with_reducible refine (RC.out _ B00.out).mono ?_); rintro r w1 ⟨rfl, hb1⟩; have K1 := Lib.hid (KP.out _ hb1); have L1 := Lib.hid hb1; clear hb1; obtain ⟨v0, v1, v2, v3, v4, v5, v6⟩ := K1.out.1.cells; obtain ⟨e0, e1, e2, e3, e4⟩ := K1.out.2.1.cells)))
          go_meet
          exact ⟨by rw [hTT.out] <;> simp [b1, b2, b3], L1⟩
        · by_cases hL : ListedP e
          · have hTT : Hid (T = false) := Lib.hid (by rw [hT.out]; exact tf_false (fun h => by rcases h with h | h | h | h | h <;> first | exact h hR | exact p1 h | exact p2 h | exact p3 h | exact h hL))
            rw [tf_true hL] at LC
            clear hR hL p1 p2 p3
            go_wp2_with (first | (go_at_call 21; ((with_reducible refine (LC.out _ K1.out.2.2.2).mono ?_); rintro r w3 ⟨rfl, hb3⟩; have L3 := Lib.hid (L1.out.trans (hb3.mono L1.out.size)); clear hb3)) | (go_at_call 20; ((with_reducible refine (RC.out _ B00.out).mono ?_); rintro r w1 ⟨rfl, hb1⟩; have K1 := Lib.hid (KP.out _ hb1); have L1 := Lib.hid hb1; clear hb1; obtain ⟨v0, v1, v2, v3, v4, v5, v6⟩ := K1.out.1.cells; obtain ⟨e0, e1, e2, e3, e4⟩ := K1.out.2.1.cells)))
            go_meet
            exact ⟨by rw [hTT.out] <;> simp [b1, b2, b3], L3⟩
          · have hTT : Hid (T = true) := Lib.hid (by rw [hT.out]; exact tf_true (.inr (.inr (.inr (.inr hL)))))
            rw [tf_false hL] at LC
            clear hR hL p1 p2 p3
            go_wp2_with (first | (go_at_call 21; ((with_reducible refine (LC.out _ K1.out.2.2.2).mono ?_); rintro r w3 ⟨rfl, hb3⟩; have L3 := Lib.hid (L1.out.trans (hb3.mono L1.out.size)); clear hb3)) | (go_at_call 20; ((with_reducible refine (RC.out _ B00.out).mono ?_); rintro r w1 ⟨rfl, hb1⟩; have K1 := Lib.hid (KP.out _ hb1); have L1 := Lib.hid hb1; clear hb1; obtain ⟨v0, v1, v2, v3, v4, v5, v6⟩ := K1.out.1.cells; obtain ⟨e0, e1, e2, e3, e4⟩ := K1.out.2.1.cells)))
            go_meet
            exact ⟨by rw [hTT.out] <;> simp [b1, b2, b3], L3⟩
  case rest =>
    obtain ⟨rfl, hB⟩ := hcut
    have KW := Lib.hid (KP.out _ hB.out)
    have KZ := Lib.hid (KS.out _ hB.out)
    clear RC LC v0 v1 v2 v3 v4 v5 v6 e0 e1 e2 e3 e4
    by_cases hA : ArgP v e
    · have hTT : T = true := by rw [hT.out]; exact tf_true hA
      subst hTT
      obtain ⟨y0, y1, y2, y3, y4, y5, y6⟩ := KW.out.2.2.1.cells
      have fz := KW.out.2.2.1.frozen
      replace hA := Lib.hid hA
      go_wp2_with fail
      obtain ⟨g0, g1, g2, g3, g4, g5, g6⟩ := zput_cells KW.out.2.2.1
      exact bodyPost_ret (v := .tuple #[zV, .int .i64 2]) (by simp [results, Try.results9, go_sem, g0, g1, g2, g3, g4, g5, g6]) rfl ⟨.inl ⟨hA.out, rfl⟩, below_zPut (p := w.heap.size + 1 + 1) KW.out.2.2.2 (by omega)⟩
    have hTT : T = false := by rw [hT.out]; exact tf_false hA
    subst hTT
    have hR : RightP v := Classical.byContradiction fun h => hA (.inl h)
    have hL : ListedP e := Classical.byContradiction fun h => hA (.inr (.inr (.inr (.inr h))))
    have MX : ∀ (a b : Nat), ¬ BelP b a → ∀ (ts : Array TypeId) (t : TypeId) (u : World), (Builtin.max_ ts t #[.int .u64 (a : Int), .int .u64 (b : Int)]).run Try.prog u = .ok (.int .u64 ((orN b a : Nat) : Int)) u := fun a b hab ts t u => by rw [run_max_int2, max_or hab]
    have M1 := MX v.log e.log (fun h => hA (.inr (.inl h)))
    have M2 := MX v.next e.next (fun h => hA (.inr (.inr (.inl h))))
    have M3 := MX v.seq e.seq (fun h => hA (.inr (.inr (.inr (.inl h)))))
    obtain ⟨v0, v1, v2, v3, v4, v5, v6⟩ := KW.out.1.cells
    obtain ⟨e0, e1, e2, e3, e4⟩ := KW.out.2.1.cells
    have I0 := Lib.hid (RaI.new (v := v) (e := e) (hg := hg) (ha := ha) KW.out.1 KW.out.2.1 KW.out.2.2.1 KW.out.2.2.2 KZ.out)
    have hA := Lib.hid hA
    have hR := Lib.hid hR
    have hL := Lib.hid hL
    have nod : Hid (∀ i, i < 4 → ((v.lv i).map Mt.num).Nodup) := Lib.hid (fun i hi => (hR.out.2 i hi).2.2.2.1.1)
    clear MX KW KZ hB KP KS B00
    go_wp2_with fail
    obtain ⟨p, hp⟩ := named wc.heap.size
    rw [← hp.out] at I0
    rw [← hp.out]
    replace hp := Lib.hid trivial
    clear M1 M2 M3 v0 v1 v2 v3 v4 v5 v6 e0 e1 e2 e3 e4
    go_loopw [7] (fun i wr => ∃ j : Nat, j ≤ 4 ∧ i = .int .i64 (j : Int) ∧ ∃ K, Hid (RaI v e H hg ha p (lvUp v j) K w wr)) (fun i _ => 4 - (intOf i).toNat)
    case atStart => exact ⟨0, Nat.zero_le _, rfl, _, Lib.hid (I0.out.congr (fun i _ => by unfold lvUp; rw [if_neg (Nat.not_lt_zero i)]))⟩
    case round =>
      clear I0
      obtain ⟨j, hjn, rfl, K, hJ⟩ := hrel
      by_cases hlt : j < 4
      · have i0 : (j : Int) < 4 := by omega
        have g0 : ¬ (j : Int) < 0 := by omega
        have M0 := Lib.hid (VM.out _ hJ.out.f j hlt)
        have hn : Hid ((H j).n ≤ 80) := Lib.hid (by rw [← M0.out.len]; exact Nat.le_trans (hR.out.2 j hlt).1 (by omega))
        have L0 := hJ.out.arg.lev hlt
        have AD := Lib.hid (fun (u : World) (hu : RaI v e H hg ha p (lvUp v j) K w u) (k : Hd) (hk : Ms k (v.lv j) u) => (hu.set hlt hk).congr (fun i _ => lvUp_succ v j i))
        have LP := Lib.hid (fun (u : World) (hu : RaI v e H hg ha p (lvUp v j) K w u) => (⟨hu.ver.lev hlt, hu.ver.frozen (3 + j)⟩ : _ ∧ _))
        obtain ⟨⟨xa, xn, xc, xb, xo⟩, hh⟩ := named (H j)
        rw [← hh.out] at M0 hn L0
        simp only at M0 hn L0
        replace hh := Lib.hid trivial
        obtain ⟨l, hl⟩ := named (v.lv j)
        rw [← hl.out] at M0 AD
        replace hl := Lib.hid trivial
        obtain ⟨⟨ka, kn, kc, kb, ko⟩, hk⟩ := named (K j)
        rw [← hk.out] at LP
        simp only at LP
        replace hk := Lib.hid trivial
        have hll := Lib.hid M0.out.len
        have hm1 := M0.out.sl.cap
        have hm2 := M0.out.sl.most
        have hbd := Lib.hid (bound_c hn.out)
        have OW := Lib.hid (World.ownsRow_made (base := wr.heap.size) (e := 40) (size := 7) wr #[] 0 (Nat.le_refl _) (by unfold maxLen; omega) (by simp))
        have hsr := Lib.hid (sl_src (cells := cellsM) (fun _ => rfl) (by decide) (M0.out.below (below_alloc wr (.cells #[] 40))).sl)
        have hfl : Hid ((l.flatMap cellsM).length = xn * 7) := Lib.hid (by rw [rowG_len (cells := cellsM) (k := 7) (fun _ => rfl), hll.out])
        have hwn := Lib.hid (M0.out.none')
        have L0a : (wr.alloc (.cells #[] 40)).cell? ⟨w.heap.size, 3 + j, none⟩ = some (.slice xa xn xc) := ((below_alloc wr _).cell (p := ⟨w.heap.size, 3 + j, none⟩) (by have := hJ.out.arg.lt; exact this)).trans L0
        have hB1 : Hid (wr.heap.size ≤ (wr.alloc (.cells #[] 40)).heap.size) := Lib.hid (by rw [World.size_alloc]; omega)
        clear hm1 hm2
        go_wp2_with (at_builtin; refine wpList_append_src rfl _ _ 23 rfl wr.heap.size 40 7 72 (.agg #[.int .u64 0, .int .i64 0, .int .i64 0, .string .empty, .string .empty, .int .u64 0, .int .u64 0]) Try.underlying23 infoM rfl (by decide) (by decide) (.slice (some ⟨wr.heap.size, 0, none⟩) 0 0) 0 [] xa xn xc (l.flatMap cellsM) OW.out hwn.out hfl.out hsr.out (by rfl) (by rfl) (one_m l) (by decide) hbd.out.1 hB1.out ?_; intro v1 w1 hown1 hgrow1 hsh1; rw [Nat.zero_add] at hown1 hsh1; rw [List.nil_append] at hown1; have J1 := Lib.hid (hJ.out.below ((below_alloc wr _).grown hgrow1 hB1.out (fun r hr => by cases hr; exact Nat.le_refl _))); obtain ⟨va, vc, rfl⟩ := hsh1; have O1 := Lib.hid (ms_own hll.out hown1); obtain ⟨k8, f8⟩ := LP.out _ J1.out; clear hown1 hgrow1)
        go_roundw
        case rel =>
          obtain ⟨b1, hk1, _⟩ := O1.out
          exact ⟨j + 1, by omega, by go_num, _, Lib.hid (AD.out _ J1.out ⟨va, xn, vc, b1, 0⟩ hk1)⟩
        case measure => simp [intOf]; omega
      obtain rfl : j = 4 := by omega
      have i0 : ¬ ((4 : Nat) : Int) < 4 := by omega
      have J0 : Hid (RaI v e H hg ha p (fun i => outL (e.gone.take 0) i (v.lv i)) K w wr) := Lib.hid (hJ.out.congr (fun i hi => by unfold lvUp; rw [if_pos hi, List.take_zero, outL_nil]))
      have F0 : Hid (fdTo (e.gone.take 0) v.lv 4 0 = 0) := Lib.hid (by rw [List.take_zero]; exact fd_zero _)
      have glen : Hid (e.gone.length = hg.n) := Lib.hid (GM.out _ hJ.out.f).len
      have alen : Hid (e.added.length = ha.n) := Lib.hid (AM.out _ hJ.out.f).len
      have gcap : hg.n ≤ hg.c ∧ hg.c ≤ 9223372036854775807 := ⟨(GM.out _ hJ.out.f).sl.cap, (GM.out _ hJ.out.f).sl.most⟩
      have acap : ha.n ≤ ha.c ∧ ha.c ≤ 9223372036854775807 := ⟨(AM.out _ hJ.out.f).sl.cap, (AM.out _ hJ.out.f).sl.most⟩
      clear hJ VM
      obtain ⟨ga, gn, gc, gb, go⟩ := hg
      obtain ⟨aa, an, ac, ab, ao⟩ := ha
      simp only at hgn han GM AM glen alen gcap acap
      obtain ⟨gc1, gc2⟩ := gcap
      obtain ⟨ac1, ac2⟩ := acap
      go_wp2_with fail
      go_loopw [8] (fun iv wr => ∃ k : Nat, k ≤ gn ∧ iv = .int .i64 (k : Int) ∧ ∃ K, Hid (RaI v e H ⟨ga, gn, gc, gb, go⟩ ⟨aa, an, ac, ab, ao⟩ p (fun i => outL (e.gone.take k) i (v.lv i)) K w wr) ∧ Hid (fdTo (e.gone.take k) v.lv 4 0 = k)) (fun iv _ => gn - (intOf iv).toNat)
      case atStart => exact ⟨0, Nat.zero_le _, rfl, _, J0, F0⟩
      case round =>
        clear J0 F0
        obtain ⟨k, hkn, rfl, K, hJ, hF⟩ := hrel
        obtain ⟨e0, e1, e2, e3, e4⟩ := hJ.out.ed.cells
        by_cases hlt : k < gn
        · have k0 : (k : Int) < (gn : Int) := by omega
          have k1 : (0 : Int) ≤ (k : Int) := by omega
          obtain ⟨g, hgx, rfl, hbl, x0, x1⟩ := (GM.out _ hJ.out.f).at2x hlt
          have hlev := hL.out.1 g (List.mem_of_getElem? hgx)
          obtain ⟨i, hgi⟩ : ∃ i : Nat, (i : Int) = g.lev := ⟨g.lev.toNat, by have := hlev.1; omega⟩
          have hi4 : i < 4 := by have := hlev.2; omega
          have htk := take_gn hgx
          have hnx : Hid (∀ i', i' < 4 → upL (fun i => outL (e.gone.take k) i (v.lv i)) i (woL g.num (outL (e.gone.take k) i (v.lv i))) i' = outL (e.gone.take (k + 1)) i' (v.lv i')) := Lib.hid (fun i' _ => by
            rw [htk]
            by_cases q : i' = i
            · subst q; rw [upL_same, outL_snoc_same hgi]
            · rw [upL_other _ _ q, outL_snoc_other (by omega)])
          have hln : Hid ((K i).n ≤ 1999) := Lib.hid (by
            rw [← (hJ.out.lv i hi4).len]
            exact Nat.le_trans (List.length_filter_le _ _) (Nat.le_trans (hR.out.2 i hi4).1 (by omega)))
          have fyes : Hid (g.num ∈ (outL (e.gone.take k) i (v.lv i)).map Mt.num → fdTo (e.gone.take (k + 1)) v.lv 4 0 = k + 1) := Lib.hid (fun h => by rw [htk, fd_yes hi4 hgi nod.out h, hF.out])
          have fno : Hid (g.num ∉ (outL (e.gone.take k) i (v.lv i)).map Mt.num → ¬ NoneP v e) := Lib.hid (fun h => none_no hR.out hL.out (k := k) (by rw [glen.out]; exact hlt) (by rw [hF.out]; exact Nat.le_refl _) (by rw [htk]; exact fd_no hi4 hgi h))
          have LK := Lib.hid (fun (u : World) (hu : RaI v e H ⟨some ⟨gb, go, none⟩, gn, gc, gb, go⟩ ⟨aa, an, ac, ab, ao⟩ p (fun i => outL (e.gone.take k) i (v.lv i)) K w u) => hu.lv i hi4)
          have VK := Lib.hid (fun (u : World) (hu : RaI v e H ⟨some ⟨gb, go, none⟩, gn, gc, gb, go⟩ ⟨aa, an, ac, ab, ao⟩ p (fun i => outL (e.gone.take k) i (v.lv i)) K w u) => (⟨hu.ver.lev hi4, hu.ver.frozen (3 + i)⟩ : _ ∧ _))
          have SE := Lib.hid (fun (u : World) (hu : Below w.heap.size w u) => (by
            obtain ⟨y, hy, _, _, q0, q1⟩ := (GM.out u hu).at2x hlt
            obtain rfl : y = g := Option.some.inj (hy.symm.trans hgx)
            exact ⟨q0, q1⟩ : u.cell? ⟨gb, go + k * 2, none⟩ = some (.int .i64 g.lev) ∧ u.cell? ⟨gb, go + k * 2 + 1, none⟩ = some (.int .u64 (g.num : Int))))
          have WC := Lib.hid (fun (u : World) (hu : RaI v e H ⟨some ⟨gb, go, none⟩, gn, gc, gb, go⟩ ⟨aa, an, ac, ab, ao⟩ p (fun i => outL (e.gone.take k) i (v.lv i)) K w u) => rwo_any (hu.lv i hi4) hln.out g.num)
          obtain ⟨⟨ka, kn, kc, kb, ko⟩, hk⟩ := named (K i)
          rw [← hk.out] at WC VK LK
          simp only at WC VK LK
          replace hk := Lib.hid trivial
          obtain ⟨glev, gnum⟩ := g
          simp only at hgi x0 x1 SE WC fyes fno hnx
          subst hgi
          have j0 : (i : Int) < 4 := by omega
          have j1 : (0 : Int) ≤ (i : Int) := by omega
          have j2 : ¬ (i : Int) < 0 := by omega
          have SS := Lib.hid (fun (u : World) (hu : RaI v e H ⟨some ⟨gb, go, none⟩, gn, gc, gb, go⟩ ⟨aa, an, ac, ab, ao⟩ p (fun i => outL (e.gone.take k) i (v.lv i)) K w u) => (⟨hu.ed.cells.2.2.2.1, (SE.out u hu.f).1, (SE.out u hu.f).2, (VK.out u hu).1⟩ : u.cell? ⟨w.heap.size + 1, 3, none⟩ = some (.slice (some ⟨gb, go, none⟩) gn gc) ∧ u.cell? ⟨gb, go + k * 2, none⟩ = some (.int .i64 (i : Int)) ∧ u.cell? ⟨gb, go + k * 2 + 1, none⟩ = some (.int .u64 (gnum : Int)) ∧ u.cell? ⟨p, 3 + i, none⟩ = some (.slice ka kn kc)))
          have JD := Lib.hid (hJ.out.below (Below.refl _ _).drew)
          have S0 := Lib.hid (SS.out _ JD.out)
          clear x0 x1 hgx hlev htk hln
          by_cases hmem : gnum ∈ (outL (e.gone.take k) i (v.lv i)).map Mt.num
          · have FY := Lib.hid (fyes.out hmem)
            rw [tf_true hmem] at WC
            clear hmem fyes fno
            go_upto_region 11 with fail
            refine wp_region_held_drew (S := (fun u => u.cell? ⟨w.heap.size + 1, 3, none⟩ = some (.slice (some ⟨gb, go, none⟩) gn gc) ∧ u.cell? ⟨gb, go + k * 2, none⟩ = some (.int .i64 (i : Int)) ∧ u.cell? ⟨gb, go + k * 2 + 1, none⟩ = some (.int .u64 (gnum : Int)) ∧ u.cell? ⟨p, 3 + i, none⟩ = some (.slice ka kn kc))) (by kernel_rfl) (S0.out) (fun hHeld => ?_)
            refine held_take (i := 0) (v := ?_) rfl (by kernel_rfl) (by kernel_rfl) (by kernel_rfl) (fun _ _ _ h => h) (by rfl) (fun w hSw => ?_) (by assumption) ?_; rotate_left 1; focus (((try dsimp only at hSw); first | (go_simp; done) | (go_simp; with_reducible rfl)))
            try simp only [Act.put, List.setIfInBounds_toArray, List.set_cons_zero, List.set_cons_succ]
            refine held_take (i := 1) (v := ?_) rfl (by kernel_rfl) (by kernel_rfl) (by kernel_rfl) (fun _ _ _ h => h) (by rfl) (fun w hSw => ?_) (by assumption) ?_; rotate_left 1; focus (((try dsimp only at hSw); first | (go_simp; done) | (go_simp; with_reducible rfl)))
            try simp only [Act.put, List.setIfInBounds_toArray, List.set_cons_zero, List.set_cons_succ]
            refine held_take (i := 2) (v := ?_) rfl (by kernel_rfl) (by kernel_rfl) (by kernel_rfl) (fun _ _ _ h => h) (by rfl) (fun w hSw => ?_) (by assumption) ?_; rotate_left 1; focus (((try dsimp only at hSw); first | (go_simp; done) | (go_simp; with_reducible rfl)))
            try simp only [Act.put, List.setIfInBounds_toArray, List.set_cons_zero, List.set_cons_succ]
            refine held_take (i := 3) (v := ?_) rfl (by kernel_rfl) (by kernel_rfl) (by kernel_rfl) (fun _ _ _ h => h) (by rfl) (fun w hSw => ?_) (by assumption) ?_; rotate_left 1; focus (((try dsimp only at hSw); first | (go_simp; done) | (go_simp; with_reducible rfl)))
            try simp only [Act.put, List.setIfInBounds_toArray, List.set_cons_zero, List.set_cons_succ]
            refine held_take (i := 4) (v := ?_) rfl (by kernel_rfl) (by kernel_rfl) (by kernel_rfl) (fun _ _ _ h => h) (by rfl) (fun w hSw => ?_) (by assumption) ?_; rotate_left 1; focus (((try dsimp only at hSw); first | (go_simp; done) | (go_simp; with_reducible rfl)))
            try simp only [Act.put, List.setIfInBounds_toArray, List.set_cons_zero, List.set_cons_succ]
            refine held_take (i := 5) (v := ?_) rfl (by kernel_rfl) (by kernel_rfl) (by kernel_rfl) (fun _ _ _ h => h) (by rfl) (fun w hSw => ?_) (by assumption) ?_; rotate_left 1; focus (((try dsimp only at hSw); first | (go_simp; done) | (go_simp; with_reducible rfl)))
            try simp only [Act.put, List.setIfInBounds_toArray, List.set_cons_zero, List.set_cons_succ]
            refine held_take (i := 6) (v := ?_) rfl (by kernel_rfl) (by kernel_rfl) (by kernel_rfl) (fun _ _ _ h => h) (by rfl) (fun w hSw => ?_) (by assumption) ?_; rotate_left 1; focus (((try dsimp only at hSw); first | (go_simp; done) | (go_simp; with_reducible rfl)))
            try simp only [Act.put, List.setIfInBounds_toArray, List.set_cons_zero, List.set_cons_succ]
            refine held_take (i := 7) (v := ?_) rfl (by kernel_rfl) (by kernel_rfl) (by kernel_rfl) (fun _ _ _ h => h) (by rfl) (fun w hSw => ?_) (by assumption) ?_; rotate_left 1; focus (((try dsimp only at hSw); first | (go_simp; done) | (go_simp; with_reducible rfl)))
            try simp only [Act.put, List.setIfInBounds_toArray, List.set_cons_zero, List.set_cons_succ]
            refine held_take (i := 8) (v := ?_) rfl (by kernel_rfl) (by kernel_rfl) (by kernel_rfl) (fun _ _ _ h => h) (by rfl) (fun w hSw => ?_) (by assumption) ?_; rotate_left 1; focus (((try dsimp only at hSw); first | (go_simp; done) | (go_simp; with_reducible rfl)))
            try simp only [Act.put, List.setIfInBounds_toArray, List.set_cons_zero, List.set_cons_succ]
            refine held_take (i := 9) (v := ?_) rfl (by kernel_rfl) (by kernel_rfl) (by kernel_rfl) (fun _ _ _ h => h) (by rfl) (fun w hSw => ?_) (by assumption) ?_; rotate_left 1; focus (((try dsimp only at hSw); first | (go_simp; done) | (go_simp; with_reducible rfl)))
            try simp only [Act.put, List.setIfInBounds_toArray, List.set_cons_zero, List.set_cons_succ]
            refine held_take (i := 10) (v := ?_) rfl (by kernel_rfl) (by kernel_rfl) (by kernel_rfl) (fun _ _ _ h => h) (by rfl) (fun w hSw => ?_) (by assumption) ?_; rotate_left 1; focus (((try dsimp only at hSw); first | (go_simp; done) | (go_simp; with_reducible rfl)))
            try simp only [Act.put, List.setIfInBounds_toArray, List.set_cons_zero, List.set_cons_succ]
            refine held_take (i := 11) (v := ?_) rfl (by kernel_rfl) (by kernel_rfl) (by kernel_rfl) (fun _ _ _ h => h) (by rfl) (fun w hSw => ?_) (by assumption) ?_; rotate_left 1; focus (((try dsimp only at hSw); first | (go_simp; done) | (go_simp; with_reducible rfl)))
            try simp only [Act.put, List.setIfInBounds_toArray, List.set_cons_zero, List.set_cons_succ]
            refine held_take (i := 12) (v := ?_) rfl (by kernel_rfl) (by kernel_rfl) (by kernel_rfl) (fun _ _ _ h => h) (by rfl) (fun w hSw => ?_) (by assumption) ?_; rotate_left 1; focus (((try dsimp only at hSw); first | (go_simp; done) | (go_simp; with_reducible rfl)))
            try simp only [Act.put, List.setIfInBounds_toArray, List.set_cons_zero, List.set_cons_succ]
            refine held_take (i := 13) (v := ?_) rfl (by kernel_rfl) (by kernel_rfl) (by kernel_rfl) (fun _ _ _ h => h) (by rfl) (fun w hSw => ?_) (by assumption) ?_; rotate_left 1; focus (((try dsimp only at hSw); first | (go_simp; done) | (go_simp; with_reducible rfl)))
            try simp only [Act.put, List.setIfInBounds_toArray, List.set_cons_zero, List.set_cons_succ]
            refine held_take (i := 14) (v := ?_) rfl (by kernel_rfl) (by kernel_rfl) (by kernel_rfl) (fun _ _ _ h => h) (by rfl) (fun w hSw => ?_) (by assumption) ?_; rotate_left 1; focus (((try dsimp only at hSw); first | (go_simp; done) | (go_simp; with_reducible rfl)))
            try simp only [Act.put, List.setIfInBounds_toArray, List.set_cons_zero, List.set_cons_succ]
            refine held_call (i := 15) (by kernel_rfl) rfl (by rfl) (fun K hK => ?_)
            go_simp
            refine (WC.out _ JD.out).mono ?_
            rintro r w3 ⟨⟨kk, rfl, hk3⟩, hb3⟩
            have J3 := Lib.hid (JD.out.below hb3)
            have K3 := Lib.hid hk3
            clear hb3 hk3
            obtain ⟨r0, r1, r2, r3⟩ := SS.out _ J3.out
            obtain ⟨e0, e1, e2, e3, e4⟩ := J3.out.ed.cells
            have f3 := (VK.out _ J3.out).2
            refine hK.out _ _ (SS.out _ J3.out) (fun hHeld => ?_)
            try simp only [Act.put, List.setIfInBounds_toArray, List.set_cons_zero, List.set_cons_succ]
            refine held_take (i := 16) (v := ?_) rfl (by kernel_rfl) (by kernel_rfl) (by kernel_rfl) (fun _ _ _ h => h) (by rfl) (fun w hSw => ?_) (by assumption) ?_; rotate_left 1; focus (((try dsimp only at hSw); first | (go_simp; done) | (go_simp; with_reducible rfl)))
            try simp only [Act.put, List.setIfInBounds_toArray, List.set_cons_zero, List.set_cons_succ]
            refine held_take (i := 17) (v := ?_) rfl (by kernel_rfl) (by kernel_rfl) (by kernel_rfl) (fun _ _ _ h => h) (by rfl) (fun w hSw => ?_) (by assumption) ?_; rotate_left 1; focus (((try dsimp only at hSw); first | (go_simp; done) | (go_simp; with_reducible rfl)))
            try simp only [Act.put, List.setIfInBounds_toArray, List.set_cons_zero, List.set_cons_succ]
            refine held_take (i := 18) (v := ?_) rfl (by kernel_rfl) (by kernel_rfl) (by kernel_rfl) (fun _ _ _ h => h) (by rfl) (fun w hSw => ?_) (by assumption) ?_; rotate_left 1; focus (((try dsimp only at hSw); first | (go_simp; done) | (go_simp; with_reducible rfl)))
            try simp only [Act.put, List.setIfInBounds_toArray, List.set_cons_zero, List.set_cons_succ]
            refine held_take (i := 19) (v := ?_) rfl (by kernel_rfl) (by kernel_rfl) (by kernel_rfl) (fun _ _ _ h => h) (by rfl) (fun w hSw => ?_) (by assumption) ?_; rotate_left 1; focus (((try dsimp only at hSw); first | (go_simp; done) | (go_simp; with_reducible rfl)))
            try simp only [Act.put, List.setIfInBounds_toArray, List.set_cons_zero, List.set_cons_succ]
            refine held_take (i := 20) (v := ?_) rfl (by kernel_rfl) (by kernel_rfl) (by kernel_rfl) (fun _ _ _ h => h) (by rfl) (fun w hSw => ?_) (by assumption) ?_; rotate_left 1; focus (((try dsimp only at hSw); first | (go_simp; done) | (go_simp; with_reducible rfl)))
            try simp only [Act.put, List.setIfInBounds_toArray, List.set_cons_zero, List.set_cons_succ]
            refine wpAnyH_done (by kernel_rfl) ?_ _
            go_wp2_with fail
            go_roundw
            case rel => exact ⟨k + 1, by omega, by go_num, _, Lib.hid ((J3.out.set hi4 K3.out).congr hnx.out), FY⟩
            case measure => simp [intOf]; omega
          · have FN := Lib.hid (fno.out hmem)
            rw [tf_false hmem] at WC
            clear hmem fyes fno
            go_upto_region 11 with fail
            refine wp_region_held_drew (S := (fun u => u.cell? ⟨w.heap.size + 1, 3, none⟩ = some (.slice (some ⟨gb, go, none⟩) gn gc) ∧ u.cell? ⟨gb, go + k * 2, none⟩ = some (.int .i64 (i : Int)) ∧ u.cell? ⟨gb, go + k * 2 + 1, none⟩ = some (.int .u64 (gnum : Int)) ∧ u.cell? ⟨p, 3 + i, none⟩ = some (.slice ka kn kc))) (by kernel_rfl) (S0.out) (fun hHeld => ?_)
            refine held_take (i := 0) (v := ?_) rfl (by kernel_rfl) (by kernel_rfl) (by kernel_rfl) (fun _ _ _ h => h) (by rfl) (fun w hSw => ?_) (by assumption) ?_; rotate_left 1; focus (((try dsimp only at hSw); first | (go_simp; done) | (go_simp; with_reducible rfl)))
            try simp only [Act.put, List.setIfInBounds_toArray, List.set_cons_zero, List.set_cons_succ]
            refine held_take (i := 1) (v := ?_) rfl (by kernel_rfl) (by kernel_rfl) (by kernel_rfl) (fun _ _ _ h => h) (by rfl) (fun w hSw => ?_) (by assumption) ?_; rotate_left 1; focus (((try dsimp only at hSw); first | (go_simp; done) | (go_simp; with_reducible rfl)))
            try simp only [Act.put, List.setIfInBounds_toArray, List.set_cons_zero, List.set_cons_succ]
            refine held_take (i := 2) (v := ?_) rfl (by kernel_rfl) (by kernel_rfl) (by kernel_rfl) (fun _ _ _ h => h) (by rfl) (fun w hSw => ?_) (by assumption) ?_; rotate_left 1; focus (((try dsimp only at hSw); first | (go_simp; done) | (go_simp; with_reducible rfl)))
            try simp only [Act.put, List.setIfInBounds_toArray, List.set_cons_zero, List.set_cons_succ]
            refine held_take (i := 3) (v := ?_) rfl (by kernel_rfl) (by kernel_rfl) (by kernel_rfl) (fun _ _ _ h => h) (by rfl) (fun w hSw => ?_) (by assumption) ?_; rotate_left 1; focus (((try dsimp only at hSw); first | (go_simp; done) | (go_simp; with_reducible rfl)))
            try simp only [Act.put, List.setIfInBounds_toArray, List.set_cons_zero, List.set_cons_succ]
            refine held_take (i := 4) (v := ?_) rfl (by kernel_rfl) (by kernel_rfl) (by kernel_rfl) (fun _ _ _ h => h) (by rfl) (fun w hSw => ?_) (by assumption) ?_; rotate_left 1; focus (((try dsimp only at hSw); first | (go_simp; done) | (go_simp; with_reducible rfl)))
            try simp only [Act.put, List.setIfInBounds_toArray, List.set_cons_zero, List.set_cons_succ]
            refine held_take (i := 5) (v := ?_) rfl (by kernel_rfl) (by kernel_rfl) (by kernel_rfl) (fun _ _ _ h => h) (by rfl) (fun w hSw => ?_) (by assumption) ?_; rotate_left 1; focus (((try dsimp only at hSw); first | (go_simp; done) | (go_simp; with_reducible rfl)))
            try simp only [Act.put, List.setIfInBounds_toArray, List.set_cons_zero, List.set_cons_succ]
            refine held_take (i := 6) (v := ?_) rfl (by kernel_rfl) (by kernel_rfl) (by kernel_rfl) (fun _ _ _ h => h) (by rfl) (fun w hSw => ?_) (by assumption) ?_; rotate_left 1; focus (((try dsimp only at hSw); first | (go_simp; done) | (go_simp; with_reducible rfl)))
            try simp only [Act.put, List.setIfInBounds_toArray, List.set_cons_zero, List.set_cons_succ]
            refine held_take (i := 7) (v := ?_) rfl (by kernel_rfl) (by kernel_rfl) (by kernel_rfl) (fun _ _ _ h => h) (by rfl) (fun w hSw => ?_) (by assumption) ?_; rotate_left 1; focus (((try dsimp only at hSw); first | (go_simp; done) | (go_simp; with_reducible rfl)))
            try simp only [Act.put, List.setIfInBounds_toArray, List.set_cons_zero, List.set_cons_succ]
            refine held_take (i := 8) (v := ?_) rfl (by kernel_rfl) (by kernel_rfl) (by kernel_rfl) (fun _ _ _ h => h) (by rfl) (fun w hSw => ?_) (by assumption) ?_; rotate_left 1; focus (((try dsimp only at hSw); first | (go_simp; done) | (go_simp; with_reducible rfl)))
            try simp only [Act.put, List.setIfInBounds_toArray, List.set_cons_zero, List.set_cons_succ]
            refine held_take (i := 9) (v := ?_) rfl (by kernel_rfl) (by kernel_rfl) (by kernel_rfl) (fun _ _ _ h => h) (by rfl) (fun w hSw => ?_) (by assumption) ?_; rotate_left 1; focus (((try dsimp only at hSw); first | (go_simp; done) | (go_simp; with_reducible rfl)))
            try simp only [Act.put, List.setIfInBounds_toArray, List.set_cons_zero, List.set_cons_succ]
            refine held_take (i := 10) (v := ?_) rfl (by kernel_rfl) (by kernel_rfl) (by kernel_rfl) (fun _ _ _ h => h) (by rfl) (fun w hSw => ?_) (by assumption) ?_; rotate_left 1; focus (((try dsimp only at hSw); first | (go_simp; done) | (go_simp; with_reducible rfl)))
            try simp only [Act.put, List.setIfInBounds_toArray, List.set_cons_zero, List.set_cons_succ]
            refine held_take (i := 11) (v := ?_) rfl (by kernel_rfl) (by kernel_rfl) (by kernel_rfl) (fun _ _ _ h => h) (by rfl) (fun w hSw => ?_) (by assumption) ?_; rotate_left 1; focus (((try dsimp only at hSw); first | (go_simp; done) | (go_simp; with_reducible rfl)))
            try simp only [Act.put, List.setIfInBounds_toArray, List.set_cons_zero, List.set_cons_succ]
            refine held_take (i := 12) (v := ?_) rfl (by kernel_rfl) (by kernel_rfl) (by kernel_rfl) (fun _ _ _ h => h) (by rfl) (fun w hSw => ?_) (by assumption) ?_; rotate_left 1; focus (((try dsimp only at hSw); first | (go_simp; done) | (go_simp; with_reducible rfl)))
            try simp only [Act.put, List.setIfInBounds_toArray, List.set_cons_zero, List.set_cons_succ]
            refine held_take (i := 13) (v := ?_) rfl (by kernel_rfl) (by kernel_rfl) (by kernel_rfl) (fun _ _ _ h => h) (by rfl) (fun w hSw => ?_) (by assumption) ?_; rotate_left 1; focus (((try dsimp only at hSw); first | (go_simp; done) | (go_simp; with_reducible rfl)))
            try simp only [Act.put, List.setIfInBounds_toArray, List.set_cons_zero, List.set_cons_succ]
            refine held_take (i := 14) (v := ?_) rfl (by kernel_rfl) (by kernel_rfl) (by kernel_rfl) (fun _ _ _ h => h) (by rfl) (fun w hSw => ?_) (by assumption) ?_; rotate_left 1; focus (((try dsimp only at hSw); first | (go_simp; done) | (go_simp; with_reducible rfl)))
            try simp only [Act.put, List.setIfInBounds_toArray, List.set_cons_zero, List.set_cons_succ]
            refine held_call (i := 15) (by kernel_rfl) rfl (by rfl) (fun K hK => ?_)
            go_simp
            refine (WC.out _ JD.out).mono ?_
            rintro r w3 ⟨⟨kk, rfl, hk3⟩, hb3⟩
            have J3 := Lib.hid (JD.out.below hb3)
            have K3 := Lib.hid hk3
            clear hb3 hk3
            obtain ⟨r0, r1, r2, r3⟩ := SS.out _ J3.out
            obtain ⟨e0, e1, e2, e3, e4⟩ := J3.out.ed.cells
            have f3 := (VK.out _ J3.out).2
            refine hK.out _ _ (SS.out _ J3.out) (fun hHeld => ?_)
            try simp only [Act.put, List.setIfInBounds_toArray, List.set_cons_zero, List.set_cons_succ]
            refine held_take (i := 16) (v := ?_) rfl (by kernel_rfl) (by kernel_rfl) (by kernel_rfl) (fun _ _ _ h => h) (by rfl) (fun w hSw => ?_) (by assumption) ?_; rotate_left 1; focus (((try dsimp only at hSw); first | (go_simp; done) | (go_simp; with_reducible rfl)))
            try simp only [Act.put, List.setIfInBounds_toArray, List.set_cons_zero, List.set_cons_succ]
            refine held_take (i := 17) (v := ?_) rfl (by kernel_rfl) (by kernel_rfl) (by kernel_rfl) (fun _ _ _ h => h) (by rfl) (fun w hSw => ?_) (by assumption) ?_; rotate_left 1; focus (((try dsimp only at hSw); first | (go_simp; done) | (go_simp; with_reducible rfl)))
            try simp only [Act.put, List.setIfInBounds_toArray, List.set_cons_zero, List.set_cons_succ]
            refine held_take (i := 18) (v := ?_) rfl (by kernel_rfl) (by kernel_rfl) (by kernel_rfl) (fun _ _ _ h => h) (by rfl) (fun w hSw => ?_) (by assumption) ?_; rotate_left 1; focus (((try dsimp only at hSw); first | (go_simp; done) | (go_simp; with_reducible rfl)))
            try simp only [Act.put, List.setIfInBounds_toArray, List.set_cons_zero, List.set_cons_succ]
            refine held_take (i := 19) (v := ?_) rfl (by kernel_rfl) (by kernel_rfl) (by kernel_rfl) (fun _ _ _ h => h) (by rfl) (fun w hSw => ?_) (by assumption) ?_; rotate_left 1; focus (((try dsimp only at hSw); first | (go_simp; done) | (go_simp; with_reducible rfl)))
            try simp only [Act.put, List.setIfInBounds_toArray, List.set_cons_zero, List.set_cons_succ]
            refine held_take (i := 20) (v := ?_) rfl (by kernel_rfl) (by kernel_rfl) (by kernel_rfl) (fun _ _ _ h => h) (by rfl) (fun w hSw => ?_) (by assumption) ?_; rotate_left 1; focus (((try dsimp only at hSw); first | (go_simp; done) | (go_simp; with_reducible rfl)))
            try simp only [Act.put, List.setIfInBounds_toArray, List.set_cons_zero, List.set_cons_succ]
            refine wpAnyH_done (by kernel_rfl) ?_ _
            obtain ⟨y0, y1, y2, y3, y4, y5, y6⟩ := J3.out.z.cells
            have fz := J3.out.z.frozen
            clear e0 e1 e2 e3 e4
            go_wp2_with fail
            obtain ⟨g0, g1, g2, g3, g4, g5, g6⟩ := zput_cells J3.out.z
            exact bodyPost_ret (v := .tuple #[zV, .int .i64 4]) (by simp [results, Try.results9, go_sem, g0, g1, g2, g3, g4, g5, g6]) rfl ⟨.inr ⟨hA.out, .inl ⟨FN.out, rfl⟩⟩, below_zPut (p := w.heap.size + 1 + 1) J3.out.f (by omega)⟩
        obtain rfl : k = gn := by omega
        have k0 : ¬ (k : Int) < (k : Int) := by omega
        have NP : Hid (NoneP v e) := Lib.hid (by unfold NoneP; have := hF.out; rw [← glen.out, List.take_length] at this; exact this)
        have J0 : Hid (RaI v e H ⟨ga, k, gc, gb, go⟩ ⟨aa, an, ac, ab, ao⟩ p (outLv v e) K w wr) := Lib.hid (hJ.out.congr (fun i hi => by rw [outLv_eq hi, ← glen.out, List.take_length]))
        have P0 : Hid (PutTo e.added (outLv v e) 0 (outLv v e)) := Lib.hid (PutTo.zero (fun i hi => out_weak hR.out hi))
        have N0 : Hid (NewP (nsTo (outLv v e) 4) ((e.added.take 0).map Pl.tb)) := Lib.hid (by rw [List.take_zero]; exact newP_nil _)
        clear hJ hF GM
        go_wp2_with fail
        clear e0 e1 e2 e3 e4
        go_loopw [11] (fun iv wr => ∃ m : Nat, m ≤ an ∧ iv = .int .i64 (m : Int) ∧ ∃ M K, Hid (PutTo e.added (outLv v e) m M) ∧ Hid (NewP (nsTo (outLv v e) 4) ((e.added.take m).map Pl.tb)) ∧ Hid (RaI v e H ⟨ga, k, gc, gb, go⟩ ⟨aa, an, ac, ab, ao⟩ p M K w wr)) (fun iv _ => an - (intOf iv).toNat)
        case atStart => exact ⟨0, Nat.zero_le _, rfl, _, _, P0, N0, J0⟩
        case round =>
          clear J0 P0 N0
          obtain ⟨m, hmn, rfl, M, K, hP, hN, hJ⟩ := hrel
          obtain ⟨e0, e1, e2, e3, e4⟩ := hJ.out.ed.cells
          by_cases hlt : m < an
          · have k0 : (m : Int) < (an : Int) := by omega
            have k1 : (0 : Int) ≤ (m : Int) := by omega
            obtain ⟨x, hx, rfl, hbl, x0, x1, x2, x3, x4, x5, x6, x7⟩ := (AM.out _ hJ.out.f).at8x hlt
            have hlev := (hL.out.2 x (List.mem_of_getElem? hx)).1
            obtain ⟨i, hgi⟩ : ∃ i : Nat, (i : Int) = x.lev := ⟨x.lev.toNat, by have := hlev.1; omega⟩
            have hi4 : i < 4 := by have := hlev.2; omega
            have hlnM : Hid (∀ j, j < 4 → (K j).n ≤ 1999) := Lib.hid (fun j hj => by rw [← (hJ.out.lv j hj).len]; exact put_len hP.out hR.out (by omega) hj)
            have SE := Lib.hid (fun (u : World) (hu : Below w.heap.size w u) => (by
              obtain ⟨y, hy, _, _, q⟩ := (AM.out u hu).at8x hlt
              obtain rfl : y = x := Option.some.inj (hy.symm.trans hx)
              exact q : u.cell? ⟨ab, ao + m * 8, none⟩ = some (.int .i64 x.lev) ∧ u.cell? ⟨ab, ao + m * 8 + 1, none⟩ = some (.int .u64 (x.tb.num : Int)) ∧ u.cell? ⟨ab, ao + m * 8 + 2, none⟩ = some (.int .i64 x.tb.size) ∧ u.cell? ⟨ab, ao + m * 8 + 3, none⟩ = some (.int .i64 x.tb.rows) ∧ u.cell? ⟨ab, ao + m * 8 + 4, none⟩ = some (.string x.tb.fst) ∧ u.cell? ⟨ab, ao + m * 8 + 5, none⟩ = some (.string x.tb.lst) ∧ u.cell? ⟨ab, ao + m * 8 + 6, none⟩ = some (.int .u64 (x.tb.least : Int)) ∧ u.cell? ⟨ab, ao + m * 8 + 7, none⟩ = some (.int .u64 (x.tb.gr : Int))))
            have hyes : Hid (∀ j, j < 4 → x.tb.num ∈ (M j).map Mt.num → ¬ ThereP v e) := Lib.hid (fun j hj h => there_no hx ((put_nums (fun q hq => (hL.out.2 q hq).1) hP.out).1 ⟨j, hj, h⟩))
            have hno : Hid ((∀ j, j < 4 → x.tb.num ∉ (M j).map Mt.num) → NewP (nsTo (outLv v e) 4) ((e.added.take (m + 1)).map Pl.tb)) := Lib.hid (fun h => there_step hx hN.out (fun q => by
              obtain ⟨j, hj, hq⟩ := (put_nums (fun q hq => (hL.out.2 q hq).1) hP.out).2 q
              exact h j hj hq))
            have hps : Hid (∀ r, WithD i (M i) x.tb r → PutTo e.added (outLv v e) (m + 1) (upL M i r)) := Lib.hid (fun r hr => hP.out.succ hi4 (by rw [hgi]; exact hx) hr)
            clear x0 x1 x2 x3 x4 x5 x6 x7 hlev hN
            go_wp2_with fail
            go_loopw [12] (fun jv wr => ∃ j : Nat, j ≤ 4 ∧ jv = .int .i64 (j : Int) ∧ Hid (∀ i, i < j → x.tb.num ∉ (M i).map Mt.num) ∧ Hid (RaI v e H ⟨ga, k, gc, gb, go⟩ ⟨some ⟨ab, ao, none⟩, an, ac, ab, ao⟩ p M K w wr)) (fun jv _ => 4 - (intOf jv).toNat)
            case atStart => exact ⟨0, Nat.zero_le _, rfl, Lib.hid (fun i hi => absurd hi (Nat.not_lt_zero i)), hJ⟩
            case round =>
              clear hJ e0 e1 e2 e3 e4
              obtain ⟨j, hj4, rfl, hD, hJ⟩ := hrel
              obtain ⟨e0, e1, e2, e3, e4⟩ := hJ.out.ed.cells
              by_cases hjl : j < 4
              · have i0 : (j : Int) < 4 := by omega
                have i1 : (0 : Int) ≤ (j : Int) := by omega
                have i2 : ¬ (j : Int) < 0 := by omega
                have WC := Lib.hid (fun (u : World) (hu : RaI v e H ⟨ga, k, gc, gb, go⟩ ⟨some ⟨ab, ao, none⟩, an, ac, ab, ao⟩ p M K w u) => rwo_any (hu.lv j hjl) (hlnM.out j hjl) x.tb.num)
                have VK := Lib.hid (fun (u : World) (hu : RaI v e H ⟨ga, k, gc, gb, go⟩ ⟨some ⟨ab, ao, none⟩, an, ac, ab, ao⟩ p M K w u) => hu.ver.lev hjl)
                obtain ⟨⟨ka, kn, kc, kb, ko⟩, hk⟩ := named (K j)
                rw [← hk.out] at WC VK
                simp only at WC VK
                replace hk := Lib.hid trivial
                have SS := Lib.hid (fun (u : World) (hu : RaI v e H ⟨ga, k, gc, gb, go⟩ ⟨some ⟨ab, ao, none⟩, an, ac, ab, ao⟩ p M K w u) => (⟨hu.ed.cells.2.2.2.2, (SE.out u hu.f).2.1, VK.out u hu⟩ : u.cell? ⟨w.heap.size + 1, 4, none⟩ = some (.slice (some ⟨ab, ao, none⟩) an ac) ∧ u.cell? ⟨ab, ao + m * 8 + 1, none⟩ = some (.int .u64 (x.tb.num : Int)) ∧ u.cell? ⟨p, 3 + j, none⟩ = some (.slice ka kn kc)))
                have JD := Lib.hid (hJ.out.below (Below.refl _ _).drew)
                have S0 := Lib.hid (SS.out _ JD.out)
                have hx := Lib.hid hx
                by_cases hmem : x.tb.num ∈ (M j).map Mt.num
                · have FN := Lib.hid (hyes.out j hjl hmem)
                  rw [tf_true hmem] at WC
                  clear hmem e0 e1 e2 e3 e4
                  go_upto_region 21 with fail
                  refine wp_region_held_drew (S := (fun u => u.cell? ⟨w.heap.size + 1, 4, none⟩ = some (.slice (some ⟨ab, ao, none⟩) an ac) ∧ u.cell? ⟨ab, ao + m * 8 + 1, none⟩ = some (.int .u64 (x.tb.num : Int)) ∧ u.cell? ⟨p, 3 + j, none⟩ = some (.slice ka kn kc))) (by kernel_rfl) (S0.out) (fun hHeld => ?_)
                  refine held_take (i := 0) (v := ?_) rfl (by kernel_rfl) (by kernel_rfl) (by kernel_rfl) (fun _ _ _ h => h) (by rfl) (fun w hSw => ?_) (by assumption) ?_; rotate_left 1; focus (((try dsimp only at hSw); first | (go_simp; done) | (go_simp; with_reducible rfl)))
                  try simp only [Act.put, List.setIfInBounds_toArray, List.set_cons_zero, List.set_cons_succ]
                  refine held_take (i := 1) (v := ?_) rfl (by kernel_rfl) (by kernel_rfl) (by kernel_rfl) (fun _ _ _ h => h) (by rfl) (fun w hSw => ?_) (by assumption) ?_; rotate_left 1; focus (((try dsimp only at hSw); first | (go_simp; done) | (go_simp; with_reducible rfl)))
                  try simp only [Act.put, List.setIfInBounds_toArray, List.set_cons_zero, List.set_cons_succ]
                  refine held_take (i := 2) (v := ?_) rfl (by kernel_rfl) (by kernel_rfl) (by kernel_rfl) (fun _ _ _ h => h) (by rfl) (fun w hSw => ?_) (by assumption) ?_; rotate_left 1; focus (((try dsimp only at hSw); first | (go_simp; done) | (go_simp; with_reducible rfl)))
                  try simp only [Act.put, List.setIfInBounds_toArray, List.set_cons_zero, List.set_cons_succ]
                  refine held_take (i := 3) (v := ?_) rfl (by kernel_rfl) (by kernel_rfl) (by kernel_rfl) (fun _ _ _ h => h) (by rfl) (fun w hSw => ?_) (by assumption) ?_; rotate_left 1; focus (((try dsimp only at hSw); first | (go_simp; done) | (go_simp; with_reducible rfl)))
                  try simp only [Act.put, List.setIfInBounds_toArray, List.set_cons_zero, List.set_cons_succ]
                  refine held_take (i := 4) (v := ?_) rfl (by kernel_rfl) (by kernel_rfl) (by kernel_rfl) (fun _ _ _ h => h) (by rfl) (fun w hSw => ?_) (by assumption) ?_; rotate_left 1; focus (((try dsimp only at hSw); first | (go_simp; done) | (go_simp; with_reducible rfl)))
                  try simp only [Act.put, List.setIfInBounds_toArray, List.set_cons_zero, List.set_cons_succ]
                  refine held_take (i := 5) (v := ?_) rfl (by kernel_rfl) (by kernel_rfl) (by kernel_rfl) (fun _ _ _ h => h) (by rfl) (fun w hSw => ?_) (by assumption) ?_; rotate_left 1; focus (((try dsimp only at hSw); first | (go_simp; done) | (go_simp; with_reducible rfl)))
                  try simp only [Act.put, List.setIfInBounds_toArray, List.set_cons_zero, List.set_cons_succ]
                  refine held_take (i := 6) (v := ?_) rfl (by kernel_rfl) (by kernel_rfl) (by kernel_rfl) (fun _ _ _ h => h) (by rfl) (fun w hSw => ?_) (by assumption) ?_; rotate_left 1; focus (((try dsimp only at hSw); first | (go_simp; done) | (go_simp; with_reducible rfl)))
                  try simp only [Act.put, List.setIfInBounds_toArray, List.set_cons_zero, List.set_cons_succ]
                  refine held_take (i := 7) (v := ?_) rfl (by kernel_rfl) (by kernel_rfl) (by kernel_rfl) (fun _ _ _ h => h) (by rfl) (fun w hSw => ?_) (by assumption) ?_; rotate_left 1; focus (((try dsimp only at hSw); first | (go_simp; done) | (go_simp; with_reducible rfl)))
                  try simp only [Act.put, List.setIfInBounds_toArray, List.set_cons_zero, List.set_cons_succ]
                  refine held_take (i := 8) (v := ?_) rfl (by kernel_rfl) (by kernel_rfl) (by kernel_rfl) (fun _ _ _ h => h) (by rfl) (fun w hSw => ?_) (by assumption) ?_; rotate_left 1; focus (((try dsimp only at hSw); first | (go_simp; done) | (go_simp; with_reducible rfl)))
                  try simp only [Act.put, List.setIfInBounds_toArray, List.set_cons_zero, List.set_cons_succ]
                  refine held_take (i := 9) (v := ?_) rfl (by kernel_rfl) (by kernel_rfl) (by kernel_rfl) (fun _ _ _ h => h) (by rfl) (fun w hSw => ?_) (by assumption) ?_; rotate_left 1; focus (((try dsimp only at hSw); first | (go_simp; done) | (go_simp; with_reducible rfl)))
                  try simp only [Act.put, List.setIfInBounds_toArray, List.set_cons_zero, List.set_cons_succ]
                  refine held_take (i := 10) (v := ?_) rfl (by kernel_rfl) (by kernel_rfl) (by kernel_rfl) (fun _ _ _ h => h) (by rfl) (fun w hSw => ?_) (by assumption) ?_; rotate_left 1; focus (((try dsimp only at hSw); first | (go_simp; done) | (go_simp; with_reducible rfl)))
                  try simp only [Act.put, List.setIfInBounds_toArray, List.set_cons_zero, List.set_cons_succ]
                  refine held_call (i := 11) (by kernel_rfl) rfl (by rfl) (fun K hK => ?_)
                  go_simp
                  refine (WC.out _ JD.out).mono ?_
                  rintro r w3 ⟨⟨kk, rfl, hk3⟩, hb3⟩
                  have J3 := Lib.hid (JD.out.below hb3)
                  clear hb3 hk3
                  refine hK.out _ _ (SS.out _ J3.out) (fun hHeld => ?_)
                  try simp only [Act.put, List.setIfInBounds_toArray, List.set_cons_zero, List.set_cons_succ]
                  refine held_take (i := 12) (v := ?_) rfl (by kernel_rfl) (by kernel_rfl) (by kernel_rfl) (fun _ _ _ h => h) (by rfl) (fun w hSw => ?_) (by assumption) ?_; rotate_left 1; focus (((try dsimp only at hSw); first | (go_simp; done) | (go_simp; with_reducible rfl)))
                  try simp only [Act.put, List.setIfInBounds_toArray, List.set_cons_zero, List.set_cons_succ]
                  refine held_take (i := 13) (v := ?_) rfl (by kernel_rfl) (by kernel_rfl) (by kernel_rfl) (fun _ _ _ h => h) (by rfl) (fun w hSw => ?_) (by assumption) ?_; rotate_left 1; focus (((try dsimp only at hSw); first | (go_simp; done) | (go_simp; with_reducible rfl)))
                  try simp only [Act.put, List.setIfInBounds_toArray, List.set_cons_zero, List.set_cons_succ]
                  refine held_take (i := 14) (v := ?_) rfl (by kernel_rfl) (by kernel_rfl) (by kernel_rfl) (fun _ _ _ h => h) (by rfl) (fun w hSw => ?_) (by assumption) ?_; rotate_left 1; focus (((try dsimp only at hSw); first | (go_simp; done) | (go_simp; with_reducible rfl)))
                  try simp only [Act.put, List.setIfInBounds_toArray, List.set_cons_zero, List.set_cons_succ]
                  refine held_take (i := 15) (v := ?_) rfl (by kernel_rfl) (by kernel_rfl) (by kernel_rfl) (fun _ _ _ h => h) (by rfl) (fun w hSw => ?_) (by assumption) ?_; rotate_left 1; focus (((try dsimp only at hSw); first | (go_simp; done) | (go_simp; with_reducible rfl)))
                  try simp only [Act.put, List.setIfInBounds_toArray, List.set_cons_zero, List.set_cons_succ]
                  refine held_take (i := 16) (v := ?_) rfl (by kernel_rfl) (by kernel_rfl) (by kernel_rfl) (fun _ _ _ h => h) (by rfl) (fun w hSw => ?_) (by assumption) ?_; rotate_left 1; focus (((try dsimp only at hSw); first | (go_simp; done) | (go_simp; with_reducible rfl)))
                  try simp only [Act.put, List.setIfInBounds_toArray, List.set_cons_zero, List.set_cons_succ]
                  refine wpAnyH_done (by kernel_rfl) ?_ _
                  obtain ⟨y0, y1, y2, y3, y4, y5, y6⟩ := J3.out.z.cells
                  have fz := J3.out.z.frozen
                  go_wp2_with fail
                  obtain ⟨g0, g1, g2, g3, g4, g5, g6⟩ := zput_cells J3.out.z
                  exact bodyPost_ret (v := .tuple #[zV, .int .i64 5]) (by simp [results, Try.results9, go_sem, g0, g1, g2, g3, g4, g5, g6]) rfl ⟨.inr ⟨hA.out, .inr (.inl ⟨NP.out, FN.out, rfl⟩)⟩, below_zPut (p := w.heap.size + 1 + 1) J3.out.f (by omega)⟩
                · have DN : Hid (∀ i, i < j + 1 → x.tb.num ∉ (M i).map Mt.num) := Lib.hid (fun i hi => by
                    by_cases q : i < j
                    · exact hD.out i q
                    · obtain rfl : i = j := by omega
                      exact hmem)
                  rw [tf_false hmem] at WC
                  clear hmem e0 e1 e2 e3 e4
                  go_upto_region 21 with fail
                  refine wp_region_held_drew (S := (fun u => u.cell? ⟨w.heap.size + 1, 4, none⟩ = some (.slice (some ⟨ab, ao, none⟩) an ac) ∧ u.cell? ⟨ab, ao + m * 8 + 1, none⟩ = some (.int .u64 (x.tb.num : Int)) ∧ u.cell? ⟨p, 3 + j, none⟩ = some (.slice ka kn kc))) (by kernel_rfl) (S0.out) (fun hHeld => ?_)
                  refine held_take (i := 0) (v := ?_) rfl (by kernel_rfl) (by kernel_rfl) (by kernel_rfl) (fun _ _ _ h => h) (by rfl) (fun w hSw => ?_) (by assumption) ?_; rotate_left 1; focus (((try dsimp only at hSw); first | (go_simp; done) | (go_simp; with_reducible rfl)))
                  try simp only [Act.put, List.setIfInBounds_toArray, List.set_cons_zero, List.set_cons_succ]
                  refine held_take (i := 1) (v := ?_) rfl (by kernel_rfl) (by kernel_rfl) (by kernel_rfl) (fun _ _ _ h => h) (by rfl) (fun w hSw => ?_) (by assumption) ?_; rotate_left 1; focus (((try dsimp only at hSw); first | (go_simp; done) | (go_simp; with_reducible rfl)))
                  try simp only [Act.put, List.setIfInBounds_toArray, List.set_cons_zero, List.set_cons_succ]
                  refine held_take (i := 2) (v := ?_) rfl (by kernel_rfl) (by kernel_rfl) (by kernel_rfl) (fun _ _ _ h => h) (by rfl) (fun w hSw => ?_) (by assumption) ?_; rotate_left 1; focus (((try dsimp only at hSw); first | (go_simp; done) | (go_simp; with_reducible rfl)))
                  try simp only [Act.put, List.setIfInBounds_toArray, List.set_cons_zero, List.set_cons_succ]
                  refine held_take (i := 3) (v := ?_) rfl (by kernel_rfl) (by kernel_rfl) (by kernel_rfl) (fun _ _ _ h => h) (by rfl) (fun w hSw => ?_) (by assumption) ?_; rotate_left 1; focus (((try dsimp only at hSw); first | (go_simp; done) | (go_simp; with_reducible rfl)))
                  try simp only [Act.put, List.setIfInBounds_toArray, List.set_cons_zero, List.set_cons_succ]
                  refine held_take (i := 4) (v := ?_) rfl (by kernel_rfl) (by kernel_rfl) (by kernel_rfl) (fun _ _ _ h => h) (by rfl) (fun w hSw => ?_) (by assumption) ?_; rotate_left 1; focus (((try dsimp only at hSw); first | (go_simp; done) | (go_simp; with_reducible rfl)))
                  try simp only [Act.put, List.setIfInBounds_toArray, List.set_cons_zero, List.set_cons_succ]
                  refine held_take (i := 5) (v := ?_) rfl (by kernel_rfl) (by kernel_rfl) (by kernel_rfl) (fun _ _ _ h => h) (by rfl) (fun w hSw => ?_) (by assumption) ?_; rotate_left 1; focus (((try dsimp only at hSw); first | (go_simp; done) | (go_simp; with_reducible rfl)))
                  try simp only [Act.put, List.setIfInBounds_toArray, List.set_cons_zero, List.set_cons_succ]
                  refine held_take (i := 6) (v := ?_) rfl (by kernel_rfl) (by kernel_rfl) (by kernel_rfl) (fun _ _ _ h => h) (by rfl) (fun w hSw => ?_) (by assumption) ?_; rotate_left 1; focus (((try dsimp only at hSw); first | (go_simp; done) | (go_simp; with_reducible rfl)))
                  try simp only [Act.put, List.setIfInBounds_toArray, List.set_cons_zero, List.set_cons_succ]
                  refine held_take (i := 7) (v := ?_) rfl (by kernel_rfl) (by kernel_rfl) (by kernel_rfl) (fun _ _ _ h => h) (by rfl) (fun w hSw => ?_) (by assumption) ?_; rotate_left 1; focus (((try dsimp only at hSw); first | (go_simp; done) | (go_simp; with_reducible rfl)))
                  try simp only [Act.put, List.setIfInBounds_toArray, List.set_cons_zero, List.set_cons_succ]
                  refine held_take (i := 8) (v := ?_) rfl (by kernel_rfl) (by kernel_rfl) (by kernel_rfl) (fun _ _ _ h => h) (by rfl) (fun w hSw => ?_) (by assumption) ?_; rotate_left 1; focus (((try dsimp only at hSw); first | (go_simp; done) | (go_simp; with_reducible rfl)))
                  try simp only [Act.put, List.setIfInBounds_toArray, List.set_cons_zero, List.set_cons_succ]
                  refine held_take (i := 9) (v := ?_) rfl (by kernel_rfl) (by kernel_rfl) (by kernel_rfl) (fun _ _ _ h => h) (by rfl) (fun w hSw => ?_) (by assumption) ?_; rotate_left 1; focus (((try dsimp only at hSw); first | (go_simp; done) | (go_simp; with_reducible rfl)))
                  try simp only [Act.put, List.setIfInBounds_toArray, List.set_cons_zero, List.set_cons_succ]
                  refine held_take (i := 10) (v := ?_) rfl (by kernel_rfl) (by kernel_rfl) (by kernel_rfl) (fun _ _ _ h => h) (by rfl) (fun w hSw => ?_) (by assumption) ?_; rotate_left 1; focus (((try dsimp only at hSw); first | (go_simp; done) | (go_simp; with_reducible rfl)))
                  try simp only [Act.put, List.setIfInBounds_toArray, List.set_cons_zero, List.set_cons_succ]
                  refine held_call (i := 11) (by kernel_rfl) rfl (by rfl) (fun K hK => ?_)
                  go_simp
                  refine (WC.out _ JD.out).mono ?_
                  rintro r w3 ⟨⟨kk, rfl, hk3⟩, hb3⟩
                  have J3 := Lib.hid (JD.out.below hb3)
                  clear hb3 hk3
                  refine hK.out _ _ (SS.out _ J3.out) (fun hHeld => ?_)
                  try simp only [Act.put, List.setIfInBounds_toArray, List.set_cons_zero, List.set_cons_succ]
                  refine held_take (i := 12) (v := ?_) rfl (by kernel_rfl) (by kernel_rfl) (by kernel_rfl) (fun _ _ _ h => h) (by rfl) (fun w hSw => ?_) (by assumption) ?_; rotate_left 1; focus (((try dsimp only at hSw); first | (go_simp; done) | (go_simp; with_reducible rfl)))
                  try simp only [Act.put, List.setIfInBounds_toArray, List.set_cons_zero, List.set_cons_succ]
                  refine held_take (i := 13) (v := ?_) rfl (by kernel_rfl) (by kernel_rfl) (by kernel_rfl) (fun _ _ _ h => h) (by rfl) (fun w hSw => ?_) (by assumption) ?_; rotate_left 1; focus (((try dsimp only at hSw); first | (go_simp; done) | (go_simp; with_reducible rfl)))
                  try simp only [Act.put, List.setIfInBounds_toArray, List.set_cons_zero, List.set_cons_succ]
                  refine held_take (i := 14) (v := ?_) rfl (by kernel_rfl) (by kernel_rfl) (by kernel_rfl) (fun _ _ _ h => h) (by rfl) (fun w hSw => ?_) (by assumption) ?_; rotate_left 1; focus (((try dsimp only at hSw); first | (go_simp; done) | (go_simp; with_reducible rfl)))
                  try simp only [Act.put, List.setIfInBounds_toArray, List.set_cons_zero, List.set_cons_succ]
                  refine held_take (i := 15) (v := ?_) rfl (by kernel_rfl) (by kernel_rfl) (by kernel_rfl) (fun _ _ _ h => h) (by rfl) (fun w hSw => ?_) (by assumption) ?_; rotate_left 1; focus (((try dsimp only at hSw); first | (go_simp; done) | (go_simp; with_reducible rfl)))
                  try simp only [Act.put, List.setIfInBounds_toArray, List.set_cons_zero, List.set_cons_succ]
                  refine held_take (i := 16) (v := ?_) rfl (by kernel_rfl) (by kernel_rfl) (by kernel_rfl) (fun _ _ _ h => h) (by rfl) (fun w hSw => ?_) (by assumption) ?_; rotate_left 1; focus (((try dsimp only at hSw); first | (go_simp; done) | (go_simp; with_reducible rfl)))
                  try simp only [Act.put, List.setIfInBounds_toArray, List.set_cons_zero, List.set_cons_succ]
                  refine wpAnyH_done (by kernel_rfl) ?_ _
                  go_wp2_with fail
                  go_roundw
                  case rel => exact ⟨j + 1, by omega, by go_num, DN, J3⟩
                  case measure => simp [intOf]; omega
              obtain rfl : j = 4 := by omega
              have i0 : ¬ ((4 : Nat) : Int) < 4 := by omega
              have NN := Lib.hid (hno.out hD.out)
              have WC := Lib.hid (fun (u : World) (hu : RaI v e H ⟨ga, k, gc, gb, go⟩ ⟨some ⟨ab, ao, none⟩, an, ac, ab, ao⟩ p M K w u) => rwith_any (hu.lv i hi4) (hlnM.out i hi4) x.tb i)
              have VK := Lib.hid (fun (u : World) (hu : RaI v e H ⟨ga, k, gc, gb, go⟩ ⟨some ⟨ab, ao, none⟩, an, ac, ab, ao⟩ p M K w u) => (⟨hu.ver.lev hi4, hu.ver.frozen (3 + i)⟩ : _ ∧ _))
              obtain ⟨⟨ka, kn, kc, kb, ko⟩, hk⟩ := named (K i)
              rw [← hk.out] at WC VK
              simp only at WC VK
              replace hk := Lib.hid trivial
              obtain ⟨xlev, xn, xs, xr, xf, xl, xm, xg⟩ := x
              simp only at hgi SE WC hps NN
              subst hgi
              have j0 : (i : Int) < 4 := by omega
              have j1 : (0 : Int) ≤ (i : Int) := by omega
              have j2 : ¬ (i : Int) < 0 := by omega
              have SS := Lib.hid (fun (u : World) (hu : RaI v e H ⟨ga, k, gc, gb, go⟩ ⟨some ⟨ab, ao, none⟩, an, ac, ab, ao⟩ p M K w u) => (⟨hu.ed.cells.2.2.2.2, (VK.out u hu).1, (SE.out u hu.f).2⟩ : u.cell? ⟨w.heap.size + 1, 4, none⟩ = some (.slice (some ⟨ab, ao, none⟩) an ac) ∧ u.cell? ⟨p, 3 + i, none⟩ = some (.slice ka kn kc) ∧ u.cell? ⟨ab, ao + m * 8 + 1, none⟩ = some (.int .u64 (xn : Int)) ∧ u.cell? ⟨ab, ao + m * 8 + 2, none⟩ = some (.int .i64 xs) ∧ u.cell? ⟨ab, ao + m * 8 + 3, none⟩ = some (.int .i64 xr) ∧ u.cell? ⟨ab, ao + m * 8 + 4, none⟩ = some (.string xf) ∧ u.cell? ⟨ab, ao + m * 8 + 5, none⟩ = some (.string xl) ∧ u.cell? ⟨ab, ao + m * 8 + 6, none⟩ = some (.int .u64 (xm : Int)) ∧ u.cell? ⟨ab, ao + m * 8 + 7, none⟩ = some (.int .u64 (xg : Int))))
              have x0 := (SE.out _ hJ.out.f).1
              have JD := Lib.hid (hJ.out.below (Below.refl _ _).drew)
              have S0 := Lib.hid (SS.out _ JD.out)
              have hx := Lib.hid hx
              clear hD hno hyes hlnM
              go_upto_region 25 with fail
              clear x0 e0 e1 e2 e3 e4
              refine wp_region_E 15 (S := (fun u => u.cell? ⟨w.heap.size + 1, 4, none⟩ = some (.slice (some ⟨ab, ao, none⟩) an ac) ∧ u.cell? ⟨p, 3 + i, none⟩ = some (.slice ka kn kc) ∧ u.cell? ⟨ab, ao + m * 8 + 1, none⟩ = some (.int .u64 (xn : Int)) ∧ u.cell? ⟨ab, ao + m * 8 + 2, none⟩ = some (.int .i64 xs) ∧ u.cell? ⟨ab, ao + m * 8 + 3, none⟩ = some (.int .i64 xr) ∧ u.cell? ⟨ab, ao + m * 8 + 4, none⟩ = some (.string xf) ∧ u.cell? ⟨ab, ao + m * 8 + 5, none⟩ = some (.string xl) ∧ u.cell? ⟨ab, ao + m * 8 + 6, none⟩ = some (.int .u64 (xm : Int)) ∧ u.cell? ⟨ab, ao + m * 8 + 7, none⟩ = some (.int .u64 (xg : Int)))) (by kernel_rfl) (S0.out) (fun hHeld => ?_)
              refine heldE2_take (i := 0) (v := ?_) rfl (by kernel_rfl) (by kernel_rfl) (by kernel_rfl) (fun _ _ _ h => h) (by rfl) (fun w hSw => ?_) (by assumption) ?_; rotate_left 1; focus (((try dsimp only at hSw); first | (go_simp; done) | (go_simp; with_reducible rfl)))
              try simp only [Act.put, List.setIfInBounds_toArray, List.set_cons_zero, List.set_cons_succ]
              refine heldE2_take (i := 1) (v := ?_) rfl (by kernel_rfl) (by kernel_rfl) (by kernel_rfl) (fun _ _ _ h => h) (by rfl) (fun w hSw => ?_) (by assumption) ?_; rotate_left 1; focus (((try dsimp only at hSw); first | (go_simp; done) | (go_simp; with_reducible rfl)))
              try simp only [Act.put, List.setIfInBounds_toArray, List.set_cons_zero, List.set_cons_succ]
              refine heldE2_take (i := 2) (v := ?_) rfl (by kernel_rfl) (by kernel_rfl) (by kernel_rfl) (fun _ _ _ h => h) (by rfl) (fun w hSw => ?_) (by assumption) ?_; rotate_left 1; focus (((try dsimp only at hSw); first | (go_simp; done) | (go_simp; with_reducible rfl)))
              try simp only [Act.put, List.setIfInBounds_toArray, List.set_cons_zero, List.set_cons_succ]
              refine heldE2_take (i := 3) (v := ?_) rfl (by kernel_rfl) (by kernel_rfl) (by kernel_rfl) (fun _ _ _ h => h) (by rfl) (fun w hSw => ?_) (by assumption) ?_; rotate_left 1; focus (((try dsimp only at hSw); first | (go_simp; done) | (go_simp; with_reducible rfl)))
              try simp only [Act.put, List.setIfInBounds_toArray, List.set_cons_zero, List.set_cons_succ]
              refine heldE2_take (i := 4) (v := ?_) rfl (by kernel_rfl) (by kernel_rfl) (by kernel_rfl) (fun _ _ _ h => h) (by rfl) (fun w hSw => ?_) (by assumption) ?_; rotate_left 1; focus (((try dsimp only at hSw); first | (go_simp; done) | (go_simp; with_reducible rfl)))
              try simp only [Act.put, List.setIfInBounds_toArray, List.set_cons_zero, List.set_cons_succ]
              refine heldE2_take (i := 5) (v := ?_) rfl (by kernel_rfl) (by kernel_rfl) (by kernel_rfl) (fun _ _ _ h => h) (by rfl) (fun w hSw => ?_) (by assumption) ?_; rotate_left 1; focus (((try dsimp only at hSw); first | (go_simp; done) | (go_simp; with_reducible rfl)))
              try simp only [Act.put, List.setIfInBounds_toArray, List.set_cons_zero, List.set_cons_succ]
              refine heldE2_take (i := 6) (v := ?_) rfl (by kernel_rfl) (by kernel_rfl) (by kernel_rfl) (fun _ _ _ h => h) (by rfl) (fun w hSw => ?_) (by assumption) ?_; rotate_left 1; focus (((try dsimp only at hSw); first | (go_simp; done) | (go_simp; with_reducible rfl)))
              try simp only [Act.put, List.setIfInBounds_toArray, List.set_cons_zero, List.set_cons_succ]
              refine heldE2_take (i := 7) (v := ?_) rfl (by kernel_rfl) (by kernel_rfl) (by kernel_rfl) (fun _ _ _ h => h) (by rfl) (fun w hSw => ?_) (by assumption) ?_; rotate_left 1; focus (((try dsimp only at hSw); first | (go_simp; done) | (go_simp; with_reducible rfl)))
              try simp only [Act.put, List.setIfInBounds_toArray, List.set_cons_zero, List.set_cons_succ]
              refine heldE2_take (i := 8) (v := ?_) rfl (by kernel_rfl) (by kernel_rfl) (by kernel_rfl) (fun _ _ _ h => h) (by rfl) (fun w hSw => ?_) (by assumption) ?_; rotate_left 1; focus (((try dsimp only at hSw); first | (go_simp; done) | (go_simp; with_reducible rfl)))
              try simp only [Act.put, List.setIfInBounds_toArray, List.set_cons_zero, List.set_cons_succ]
              refine heldE2_take (i := 9) (v := ?_) rfl (by kernel_rfl) (by kernel_rfl) (by kernel_rfl) (fun _ _ _ h => h) (by rfl) (fun w hSw => ?_) (by assumption) ?_; rotate_left 1; focus (((try dsimp only at hSw); first | (go_simp; done) | (go_simp; with_reducible rfl)))
              try simp only [Act.put, List.setIfInBounds_toArray, List.set_cons_zero, List.set_cons_succ]
              refine heldE2_take (i := 10) (v := ?_) rfl (by kernel_rfl) (by kernel_rfl) (by kernel_rfl) (fun _ _ _ h => h) (by rfl) (fun w hSw => ?_) (by assumption) ?_; rotate_left 1; focus (((try dsimp only at hSw); first | (go_simp; done) | (go_simp; with_reducible rfl)))
              try simp only [Act.put, List.setIfInBounds_toArray, List.set_cons_zero, List.set_cons_succ]
              refine heldE2_take (i := 11) (v := ?_) rfl (by kernel_rfl) (by kernel_rfl) (by kernel_rfl) (fun _ _ _ h => h) (by rfl) (fun w hSw => ?_) (by assumption) ?_; rotate_left 1; focus (((try dsimp only at hSw); first | (go_simp; done) | (go_simp; with_reducible rfl)))
              try simp only [Act.put, List.setIfInBounds_toArray, List.set_cons_zero, List.set_cons_succ]
              refine heldE2_take (i := 13) (v := ?_) rfl (by kernel_rfl) (by kernel_rfl) (by kernel_rfl) (fun _ _ _ h => h) (by rfl) (fun w hSw => ?_) (by assumption) ?_; rotate_left 1; focus (((try dsimp only at hSw); first | (go_simp; done) | (go_simp; with_reducible rfl)))
              try simp only [Act.put, List.setIfInBounds_toArray, List.set_cons_zero, List.set_cons_succ]
              refine heldE_call (i := 12) (by kernel_rfl) rfl (by rfl) (fun K hK => ?_)
              go_simp
              refine (WC.out _ JD.out).mono ?_
              rintro r w3 ⟨⟨kk, l', rfl, hw3, hk3⟩, hb3⟩
              have J3 := Lib.hid (JD.out.below hb3)
              have K3 := Lib.hid hk3
              have W3 := Lib.hid hw3
              clear hb3 hk3 hw3
              refine hK.out _ _ (SS.out _ J3.out) (fun hHeld => ?_)
              try simp only [Act.put, List.setIfInBounds_toArray, List.set_cons_zero, List.set_cons_succ]
              refine heldE2_take (i := 14) (v := ?_) rfl (by kernel_rfl) (by kernel_rfl) (by kernel_rfl) (fun _ _ _ h => h) (by rfl) (fun w hSw => ?_) (by assumption) ?_; rotate_left 1; focus (((try dsimp only at hSw); first | (go_simp; done) | (go_simp; with_reducible rfl)))
              try simp only [Act.put, List.setIfInBounds_toArray, List.set_cons_zero, List.set_cons_succ]
              refine heldE_last (by kernel_rfl) rfl (by rfl) (fun K hK => ?_)
              obtain ⟨k8, f8⟩ := VK.out _ J3.out
              go_simp
              refine hK.out _ _ ?_
              try simp only [Act.put, List.setIfInBounds_toArray, List.set_cons_zero, List.set_cons_succ]
              refine wpE_done (by kernel_rfl) ?_ _
              go_wp2_with fail
              go_roundw
              case rel => exact ⟨m + 1, by omega, by go_num, _, _, Lib.hid (hps.out _ W3.out), NN, Lib.hid (J3.out.set hi4 K3.out)⟩
              case measure => simp [intOf]; omega
          obtain rfl : m = an := by omega
          have k0 : ¬ (m : Int) < (m : Int) := by omega
          have PE : Hid (PutTo e.added (outLv v e) e.added.length M) := Lib.hid (by rw [alen.out]; exact hP.out)
          have TP : Hid (ThereP v e) := Lib.hid (by have := hN.out; rw [← alen.out, List.take_length] at this; exact this)
          have RC := Lib.hid (fun (u : World) (hu : RaI v e H ⟨ga, k, gc, gb, go⟩ ⟨aa, m, ac, ab, ao⟩ p M K w u) => rright_any (v := madeV v e M) (H := K) (w := u) (fun i hi => hu.lv i hi) (put_in hP.out hI.out iE.out))
          obtain ⟨x0, x1, x2, x3, x4, x5, x6⟩ := hJ.out.ver.cells
          by_cases hr : RightP (madeV v e M)
          · rw [tf_true hr] at RC
            replace hr := Lib.hid hr
            clear hP hN AM
            go_wp2_with (go_at_call 20; ((with_reducible refine (RC.out _ hJ.out).mono ?_); rintro r w9 ⟨rfl, hb9⟩; have J9 := Lib.hid (hJ.out.below hb9); obtain ⟨x0, x1, x2, x3, x4, x5, x6⟩ := J9.out.ver.cells; obtain ⟨y0, y1, y2, y3, y4, y5, y6⟩ := J9.out.z.cells; have fz := J9.out.z.frozen; clear hb9))
            obtain ⟨g0, g1, g2, g3, g4, g5, g6⟩ := (J9.out.z.put (madeV v e M) K).cells
            refine bodyPost_ret (v := .tuple #[verV (madeV v e M) K, .int .i64 0]) (by simp [results, Try.results9, go_sem, g0, g1, g2, g3, g4, g5, g6]) rfl ⟨.inr ⟨hA.out, .inr (.inr ⟨NP.out, TP.out, M, PE.out, .inl ⟨hr.out, K, rfl, fun i hi => ?_⟩⟩)⟩, below_verPut (p := w.heap.size + 1 + 1) J9.out.f (by omega) (madeV v e M) K⟩
            have q := J9.out.lv i hi
            exact ⟨q.sl.keep (fun h0 => heap_verPut (J9.out.z.nems q h0)) (by rw [size_verPut]; exact Nat.le_refl _), q.none'⟩
          · rw [tf_false hr] at RC
            replace hr := Lib.hid hr
            clear hP hN AM
            go_wp2_with (go_at_call 20; ((with_reducible refine (RC.out _ hJ.out).mono ?_); rintro r w9 ⟨rfl, hb9⟩; have J9 := Lib.hid (hJ.out.below hb9); obtain ⟨y0, y1, y2, y3, y4, y5, y6⟩ := J9.out.z.cells; have fz := J9.out.z.frozen; clear hb9))
            obtain ⟨g0, g1, g2, g3, g4, g5, g6⟩ := zput_cells J9.out.z
            exact bodyPost_ret (v := .tuple #[zV, .int .i64 11]) (by simp [results, Try.results9, go_sem, g0, g1, g2, g3, g4, g5, g6]) rfl ⟨.inr ⟨hA.out, .inr (.inr ⟨NP.out, TP.out, M, PE.out, .inr ⟨hr.out, rfl⟩⟩)⟩, below_zPut (p := w.heap.size + 1 + 1) J9.out.f (by omega)⟩
end Go.Proofs.Ytnmjfdejgfmoiaa
