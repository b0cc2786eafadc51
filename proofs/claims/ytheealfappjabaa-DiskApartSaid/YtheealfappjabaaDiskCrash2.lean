/-
  The contract of a crash: the walk. Condition of the disk: the bounds of 'Sane', and no file is surer than it is long.
-/
import Derived.Test.YtheealfappjabaaDiskCrash
namespace Go.Proofs.Ytheealfappjabaa
open Go.RowKit Go.Maps Go.WideMaps
attribute [local go_sem] make_func eq_file ne_file ne_disk ne_map
theorem size_same {own : Own} {b i : Nat} {f : FileS} {w : World} (h : FileAt own b i f w) : Calls Try.prog 42 #[at0 b] w fun e w' => e = .returned (.int .i64 (f.data.length : Int)) ∧ w' = w := (size_file h).mono fun _ _ ⟨a, b⟩ => ⟨a, b.symm⟩
theorem wait_slice {own : Own} {pv : Value} {l : List Chg} {w : World} (h : WaitAt own pv l w) : ∃ a n c, pv = .slice a n c ∧ n = l.length := by
  obtain ⟨xs, hrow, _⟩ := h
  rcases hrow.2 with ⟨rfl, hz⟩ | ⟨g, cap, cur, rfl, _⟩
  · exact ⟨_, _, _, rfl, hz.symm⟩
  · exact ⟨_, _, _, rfl, rfl⟩
theorem key_le {own : Own} {b : Nat} {d : Dir} {w : World} (h : MapAt own b d w) {n : NameS} {i : Nat} (hm : (n, i) ∈ d) : (⟨n.toArray⟩ : ByteArray).size ≤ maxLen := by
  obtain ⟨es, e, hk⟩ := World.ownsMap.keysOf h
  unfold toD at e
  cases e
  obtain ⟨v, hv⟩ := hk _ (List.mem_map.2 ⟨_, hm, rfl⟩)
  obtain ⟨y, _, e2, hy⟩ := Maps.keyOf_str Try.underlying9 hv
  cases e2
  show n.toArray.size ≤ _
  simpa using hy
theorem Chooses.other {cb B : Nat} {o o' : Own} {cs : List Int} {w w' : World} (h : Chooses cb B cs w) (hg : Grow o o' w w') (hB : o B = none) (hcb : cs ≠ [] → o cb = none) : Chooses cb B cs w' :=
  h.keep (hg.block B (Array.getElem?_eq_some_iff.1 h.2.choose_spec.1).1 hB) fun hne => hg.block cb (h.lt hne) (hcb hne)
set_option maxRecDepth 100000 in
set_option maxHeartbeats 2000000 in
theorem crash_any {base p : Nat} {own : Own} {st : St} {w : World} (h : DiskAt base own p st w) (s : Sane st) (hf : FilesFit st.files) {cs : List Int} {cv : Value} {cb : Nat} (hcs : IntsAt cb cv cs w) (hco : cs ≠ [] → own cb = none) :
    Calls Try.prog 16 #[at0 p, cv] w (Did base own p (st.crash cs) (.tuple #[]) w) := by
  have M := Lib.hid (made_any h)
  have CH := Lib.hid (chooser_any hcs)
  obtain ⟨ca, cn, cc, rfl⟩ : ∃ a n c, cv = .slice a n c := by obtain ⟨a, n, c, e, _⟩ := hcs; exact ⟨a, n, c, e⟩
  clear hcs
  go_enter Try.func16, Try.ntmps16
  go_wp2_with (first | (go_at_call 38; ((with_reducible refine M.out.mono ?_); rintro e w' ⟨rfl, rfl⟩)))
  refine CH.out.mono ?_
  rintro e w1 ⟨rfl, hC1, hb1, hl1⟩
  have d1 := h.below hb1
  obtain ⟨nb1, kb1, pv1, p1, p2, p3, hp1, hm1, hq1, hwt1⟩ := d1.disk
  obtain ⟨_, _, _, _, _, c5, _, _⟩ := disk_cells hp1
  obtain ⟨wa, wl, wc, rfl, hwl⟩ := wait_slice hwt1
  have hwl' := Lib.hid hwl
  have d1 := Lib.hid d1
  have hC1 := Lib.hid hC1
  have hb1 := Lib.hid hb1
  have ws := s.wait
  have CC := Lib.hid (choose_any hC1.out wl (by omega))
  have nB : own w.heap.size = none := free_new h (Nat.le_refl _)
  have nB' := Lib.hid nB
  have nBp : w.heap.size ≠ p := fun e => by rw [e, p1] at nB; cases nB
  have nBp' := Lib.hid nBp
  have hB0 := Lib.hid (Nat.le_refl w.heap.size)
  clear hp1 hm1 hq1 hwt1 hwl hl1 nB nBp M CH
  generalize hBB : w.heap.size = B at CC nB' nBp' hC1 hB0
  have hBB' := Lib.hid hBB
  clear hBB
  go_wp2_with fail
  refine CC.out.mono ?_
  rintro e w2 ⟨rfl, hC2, hb2⟩
  have d2 : Hid (DiskAt base own p st w2) := Lib.hid (d1.out.keep (fun k hk => hb2.block k (d1.out.lt hk) (fun e => hk (by rw [e]; exact nB'.out))) hb2.size)
  have g2 : Hid (Grow (plus own B) (plus own B) w1 w2) := Lib.hid (Grow.plus_but hb2)
  have hC2 := Lib.hid hC2
  have hct : Hid (cs.tail ≠ [] → own cb = none) := Lib.hid fun hne => hco (tail_ne hne)
  have hpk := pick_le cs wl
  rw [hwl'.out] at hpk
  have S := Lib.hid (settle_any (k := pick cs wl) d2.out (by rw [hwl'.out]; exact hpk) s.sound s.wait)
  have hpk' := Lib.hid hpk
  clear hb2 hpk c5 CC
  go_wp2_with fail
  refine S.out.mono ?_
  rintro e w3 ⟨own3, rfl, d3, g3⟩
  obtain ⟨nb3, kb3, pv3, q1, q2, q3, hp3, hm3, hq3, hwt3⟩ := d3.disk
  obtain ⟨_, _, _, _, c4, _, _, _⟩ := disk_cells hp3
  have hkl : Hid (((st.settle (pick cs wl)).kept : Dir).length ≤ 1048576) := Lib.hid (Nat.le_trans (length_keptAt st (pick cs wl)) ws)
  have hC3 : Hid (Chooses cb B cs.tail w3) := Lib.hid (hC2.out.other g3 nB'.out hct.out)
  have hct3 : Hid (cs.tail ≠ [] → own3 cb = none) := Lib.hid fun hne => g3.free cb (hC2.out.lt hne) (hct.out hne)
  have g3' : Hid (Grow (plus own B) (plus own3 B) w1 w3) := Lib.hid (g2.out.trans (g3.plus B))
  have nB3 : Hid (own3 B = none) := Lib.hid (g3.free B (Array.getElem?_eq_some_iff.1 hC2.out.2.choose_spec.1).1 nB'.out)
  have CL := Lib.hid (clone_map hq3)
  have hp3 := Lib.hid hp3
  have q1' := Lib.hid q1
  have d3 := Lib.hid d3
  have g3 := Lib.hid g3
  clear hm3 hq3 hwt3 S
  go_wp2_with fail
  refine CL.out.mono ?_
  rintro e w4 ⟨rfl, hm4, hb4, hl4⟩
  obtain ⟨own4, d4, g4, hfree4, on4⟩ := d3.out.newNames hm4 hb4 (Nat.le_refl _) hl4
  have hp4 := (hb4.block p (d3.out.lt (by simp [q1]))).trans hp3.out
  obtain ⟨_, _, x2, x3, _⟩ := disk_cells hp4
  have f2 : w4.frozen? ⟨p, 2, none⟩ = false := frozen_of_row _ _ _ _ _ hp4
  have f3 : w4.frozen? ⟨p, 3, none⟩ = false := frozen_of_row _ _ _ _ _ hp4
  have g4' : Hid (Grow (plus own B) (plus own4 B) w1 (w4.setCell ⟨p, 2, none⟩ (.map (some w3.heap.size)))) := Lib.hid (g3'.out.trans (g4.plus B))
  have nB4 : Hid (own4 B = none) := Lib.hid (hfree4 B (Array.getElem?_eq_some_iff.1 hC3.out.2.choose_spec.1).1 nB3.out)
  have hC4 : Hid (Chooses cb B cs.tail (w4.setCell ⟨p, 2, none⟩ (.map (some w3.heap.size)))) := Lib.hid (hC3.out.other g4 nB3.out hct3.out)
  have hct4 : Hid (cs.tail ≠ [] → own4 cb = none) := Lib.hid fun hne => hfree4 cb (hC3.out.lt hne) (hct3.out hne)
  have d4 := Lib.hid d4
  have d5 : Hid (DiskAt base own4 p (st.crashed cs) ((w4.setCell ⟨p, 2, none⟩ (.map (some w3.heap.size))).setCell ⟨p, 3, none⟩ (.int .i64 0))) := Lib.hid (by
    have := d4.out.put (st' := st.crashed cs) 3 (.int .i64 0) (by unfold St.crashed keptAt; rw [← hwl'.out]; rfl) (by unfold St.crashed; rw [← hwl'.out]) (by unfold St.crashed; rw [← hwl'.out]) (by unfold St.crashed; rw [← hwl'.out]) (fun _ _ _ => by unfold St.crashed; rw [← hwl'.out]; rfl)
    exact this)
  have g5 : Hid (Grow (plus own B) (plus own4 B) w1 ((w4.setCell ⟨p, 2, none⟩ (.map (some w3.heap.size))).setCell ⟨p, 3, none⟩ (.int .i64 0))) := Lib.hid (g4'.out.trans ((d4.out.grow_put 3 _).plus B))
  have hC5 : Hid (Chooses cb B cs.tail ((w4.setCell ⟨p, 2, none⟩ (.map (some w3.heap.size))).setCell ⟨p, 3, none⟩ (.int .i64 0))) := Lib.hid (hC4.out.other (d4.out.grow_put 3 _) nB4.out hct4.out)
  clear hm4 hb4 hl4 g4 hfree4 hp4 hp3 c4 CL g3'
  generalize w3.heap.size = N3 at *
  generalize hW5 : (w4.setCell ⟨p, 2, none⟩ (.map (some N3))).setCell ⟨p, 3, none⟩ (.int .i64 0) = W5 at d5 g5 hC5
  have hW6 := Lib.hid hW5
  clear hW5
  obtain ⟨nb5, kb5, pv5, r1, r2, r3, hp5, hm5, _, _⟩ := d5.out.disk
  obtain rfl : nb5 = N3 := d5.out.inj _ _ _ r2 on4
  obtain ⟨d, hd⟩ := named (keptAt st (pick cs st.wait.length))
  have hm5 : MapAt own4 nb5 d W5 := by rw [hd.out]; exact hm5
  have hdl : d.length ≤ 1048576 := by rw [hd.out]; exact Nat.le_trans (length_keptAt st _) ws
  have hrise := Lib.hid (dir_rising hm5)
  have S5 := Lib.hid (sorted_any hm5 hdl)
  have nbw : ∀ k, W5.heap.size ≤ k → own4 k = none := fun k hk => free_new d5.out hk
  have nbw := Lib.hid nbw
  have hBlt : B < W5.heap.size := (Array.getElem?_eq_some_iff.1 hC5.out.2.choose_spec.1).1
  clear hp5 hm5 r2 on4 hC4 d4 hC3 d3 g3 g4' hC2 d2 g2 q1 q2 q3
  go_wp2_with fail
  rw [hW6.out]
  clear hW6 x2 x3 f2 f3
  refine S5.out.mono ?_
  rintro e w6 ⟨v, rfl, hN, hb6⟩
  have d6 := Lib.hid (d5.out.below hb6)
  have g6 : Hid (Grow (plus own B) (plus own4 B) w1 w6) := Lib.hid (g5.out.trans (Grow.of_below hb6 (Nat.le_refl _)))
  have hC6 : Hid (Chooses cb B cs.tail w6) := Lib.hid (hC5.out.keep (hb6.block B hBlt) fun hne => hb6.block cb (hC5.out.lt hne))
  have hnames : ∃ va vc, v = .slice va d.length vc ∧ ∀ (j : Nat) (e : NameS × Nat), d[j]? = some e → ∃ vg, va = some ⟨vg, 0, none⟩ ∧ own4 vg = none ∧ vg ≠ B ∧ w6.cell? ⟨vg, j, none⟩ = some (encStr e.1) := by
    rcases hN.2 with ⟨rfl, hz⟩ | ⟨g, cap, cur, rfl, hbg, _⟩
    · refine ⟨none, 0, by rw [hz], fun j e he => ?_⟩
      rw [List.length_eq_zero_iff.1 hz] at he; cases he
    · refine ⟨some ⟨g, 0, none⟩, cap, rfl, fun j e he => ⟨g, rfl, nbw.out g hbg, by omega, ?_⟩⟩
      have := World.ownsRow.cells hN (g := g) rfl j (encStr e.1) (by rw [List.getElem?_map, he]; rfl)
      rw [addr_add] at this
      exact this
  obtain ⟨va, vc, rfl, hcell⟩ := hnames
  have hcell := Lib.hid hcell
  have hdl' := Lib.hid hdl
  have hfit : Hid (FilesFit (st.crashed cs).files) := Lib.hid hf
  clear hN hb6 nbw hBlt S5 g5 hC5 d5
  go_wp2
  go_loopw [40] (fun i wr => ∃ j : Nat, j ≤ d.length ∧ i = .int .i64 (j : Int) ∧ Crashing base cb B p own4 ((d.take j).foldl St.crashOne (st.crashed cs, cs.tail)) w6 wr) (fun i _ => d.length - (intOf i).toNat)
  case atStart => exact ⟨0, Nat.zero_le _, rfl, own4, d6.out, hC6.out, Grow.refl _ _, nB4.out, hct4.out⟩
  case round =>
    obtain ⟨j, hj, rfl, oX, dX, cX, gX, nX, tX⟩ := hrel
    obtain ⟨x, hx⟩ := named ((d.take j).foldl St.crashOne (st.crashed cs, cs.tail))
    rw [← hx.out] at dX cX tX
    obtain ⟨k1, k2, k3, k4, k5, k6, k7, k8⟩ := crash_fold (d.take j) (st.crashed cs, cs.tail) hfit.out
    rw [← hx.out] at k1 k2 k3 k4 k5 k6 k7 k8
    have k2' : x.1.dir = d := by rw [k2, hd.out]; rfl
    have hlt0 : (d.take j).length ≤ 1048576 := by rw [List.length_take]; omega
    have u0 : 0 ≤ x.1.used := k7
    have u1 : x.1.used ≤ 281474976710656 := by have : (st.crashed cs, cs.tail).1.used = 0 := rfl; omega
    have k1 := Lib.hid k1
    clear k2 k3 k4 k5 k6 k7 k8
    by_cases hlt : j < d.length
    · obtain ⟨⟨nm, i⟩, hdj⟩ : ∃ e, d[j]? = some e := ⟨_, List.getElem?_eq_getElem hlt⟩
      obtain ⟨vg, rfl, og, nvB, vcell⟩ := hcell.out j _ hdj
      have hnext : Hid ((d.take (j + 1)).foldl St.crashOne (st.crashed cs, cs.tail) = St.crashOne x (nm, i)) := Lib.hid (by
        rw [List.take_add_one, hdj, List.foldl_append, ← hx.out]; rfl)
      have vcell' : wr.cell? ⟨vg, j, none⟩ = some (.string ⟨nm.toArray⟩) := gX.cell (plus_mk nvB og) vcell
      obtain ⟨nbX, kbX, pvX, y1, y2, y3, hpX, hmX, _, _⟩ := dX.disk
      obtain ⟨_, _, c2, c3, _⟩ := disk_cells hpX
      rw [k2'] at hmX
      have hnml : (⟨nm.toArray⟩ : ByteArray).size ≤ maxLen := key_le hmX (List.mem_of_getElem? hdj)
      obtain ⟨lv, hlr, hlv⟩ := look_run hmX ⟨nm.toArray⟩ hnml
      rw [show (⟨nm.toArray⟩ : ByteArray).data.toList = nm from rfl, look_mem hrise.out (List.mem_of_getElem? hdj)] at hlv
      obtain ⟨fb, rfl, hfb⟩ := hlv
      have hlr0 := hlr wr rfl
      obtain ⟨fp, fl, fc, fc0, hfl, fc1, _, _, _⟩ := file_cells (dX.files fb i hfb)
      have SZ : Hid (∀ u : World, u.heap = wr.heap → Calls Try.prog 42 #[at0 fb] u fun e w' => e = .returned (.int .i64 ((fileOf x.1.files i).data.length : Int)) ∧ w' = u) := Lib.hid fun u hu => size_same ((dX.same hu).files fb i hfb)
      obtain ⟨ki1, ki2⟩ := k1.out i
      obtain ⟨su, hsu⟩ := named (fileOf x.1.files i).sure
      obtain ⟨le, hle⟩ := named (fileOf x.1.files i).data.length
      rw [← hsu.out] at fc1 ki1
      rw [← hle.out] at SZ ki1 ki2
      have hs3 := IntWalk.i64_in ((le : Int) - (su : Int)) ⟨by omega, by omega⟩
      have dX := Lib.hid dX
      have cX := Lib.hid cX
      have gX := Lib.hid gX
      have nX := Lib.hid nX
      have tX := Lib.hid tX
      clear hlr hmX hpX vcell hdj hnml k2' hfl
      go_wp2
      refine wp_region_still_lit (by kernel_rfl) (by kernel_rfl) ?_
      repeat still_step
      still_call (SZ.out wr.drew rfl)
      repeat still_step
      refine wpStill_nil ?_
      change Exit.then _ _ Exit.normal _ wr.drew
      have dV : Hid (DiskAt base oX p x.1 wr.drew) := Lib.hid (dX.out.same rfl)
      have cV : Hid (Chooses cb B x.2 wr.drew) := Lib.hid (cX.out.keep rfl fun _ => rfl)
      have gV : Hid (Grow (plus own4 B) (plus oX B) w6 wr.drew) := Lib.hid (gX.out.trans (grow_d _ _))
      have c3V : wr.drew.cell? ⟨p, 3, none⟩ = some (.int .i64 x.1.used) := c3
      have fcV : wr.drew.cell? ⟨fb, 1, none⟩ = some (.int .i64 (su : Int)) := fc1
      clear dX cX gX c3 fc1 fc0 vcell' c2 hlr0 SZ
      generalize wr.drew = V at *
      have nfB : fb ≠ B := fun e => by rw [e, nX.out] at hfb; cases hfb
      have nfB' := Lib.hid nfB
      clear nfB
      by_cases hun : su < le
      · have hpos : (0 : Int) < (le : Int) - (su : Int) := by omega
        have hun2 : Hid ((fileOf x.1.files i).sure < (fileOf x.1.files i).data.length) := Lib.hid (by rw [← hsu.out, ← hle.out]; exact hun)
        obtain ⟨pk, hpk2⟩ := named (pick x.2 (le - su))
        have hple := pick_le x.2 (le - su)
        rw [← hpk2.out] at hple
        have CCX : Hid (∀ u : World, u.heap = V.heap → Calls Try.prog 58 #[.int .i64 ((le : Int) - (su : Int)), at0 B] u fun e w' => e = .returned (.int .i64 (pk : Int)) ∧ Chooses cb B x.2.tail w' ∧ But B u w') := Lib.hid fun u hu => by
          have h1 := choose_any (cV.out.keep (w' := u) (by rw [hu]) fun _ => by rw [hu]) (le - su) (by omega)
          rw [show ((le - su : Nat) : Int) = (le : Int) - (su : Int) by omega] at h1
          unfold Chose at h1
          rw [← hpk2.out] at h1
          exact h1
        have KX : Hid (∀ u : World, DiskAt base oX p x.1 u → Calls Try.prog 43 #[at0 fb, .int .i64 ((su : Int) + (pk : Int))] u (Kept base oX p fb i (x.1.setFile i ⟨(fileOf x.1.files i).data.take (su + pk), su + pk⟩) u)) := Lib.hid fun u hu => by
          have h1 := keep_any (n := su + pk) hu hfb (by rw [← hle.out]; omega) (by rw [← hle.out]; omega)
          rw [show ((su + pk : Nat) : Int) = (su : Int) + (pk : Int) by omega] at h1
          exact h1
        have hs4 := IntWalk.i64_in ((su : Int) + (pk : Int)) ⟨by omega, by omega⟩
        have ONE : Hid (St.crashOne x (nm, i) = ({ x.1.setFile i ⟨(fileOf x.1.files i).data.take (su + pk), su + pk⟩ with used := x.1.used + ((su : Int) + (pk : Int)) }, x.2.tail)) := Lib.hid (by
          unfold St.crashOne
          simp only
          rw [if_pos hun2.out, ← hsu.out, ← hle.out, ← hpk2.out, Int.natCast_add])
        have dvk : Hid (∀ u : World, But B V.drew u → DiskAt base oX p x.1 u) := Lib.hid fun u hu => dV.out.keep (fun k hk => hu.block k (dV.out.lt hk) (fun e => hk (by rw [e]; exact nX.out))) hu.size
        go_wp2
        go_region_with (first
          | (go_at_call 43; refine (KX.out _ (dvk.out _ hb7)).mono ?_; rintro e w8 ⟨own8, rfl, d8, g8, o8⟩)
          | (refine (CCX.out V.drew rfl).mono ?_; rintro e w7 ⟨rfl, hC7, hb7⟩; have fc7 : w7.cell? ⟨fb, 1, none⟩ = some (.int .i64 (su : Int)) := (hb7.cell (p := ⟨fb, 1, none⟩) (World.block_lt_of_cell? _ _ fcV) nfB'.out).trans fcV))
        all_goals
          change Exit.then _ _ Exit.normal _ w8
          have d7 := Lib.hid (dvk.out _ hb7)
          have c8 : Hid (Chooses cb B x.2.tail w8) := Lib.hid (hC7.other g8 nX.out fun hne => tX.out (tail_ne hne))
          have t8 : Hid (x.2.tail ≠ [] → own8 cb = none) := Lib.hid fun hne => g8.free cb (hC7.lt hne) (tX.out (tail_ne hne))
          have n8 : Hid (own8 B = none) := Lib.hid (g8.free B (Array.getElem?_eq_some_iff.1 hC7.2.choose_spec.1).1 nX.out)
          have G8 : Hid (Grow (plus own4 B) (plus own8 B) w6 w8) := Lib.hid (((gV.out.trans (grow_d _ _)).trans (Grow.plus_but hb7)).trans (g8.plus B))
          have D8 := Lib.hid d8
          have e8 : w8.cell? ⟨p, 3, none⟩ = some (.int .i64 x.1.used) := by
            obtain ⟨_, _, _, _, _, _, hp8, _⟩ := d8.disk
            exact (disk_cells hp8).2.2.2.1
          have SZ8 : Hid (∀ u : World, u.heap = w8.heap → Calls Try.prog 42 #[at0 fb] u fun e w' => e = .returned (.int .i64 ((su : Int) + (pk : Int))) ∧ w' = u) := Lib.hid fun u hu => by
            have h1 := size_same ((D8.out.same hu).files fb i o8)
            have hfw := dV.out.few fb i hfb
            have e1 : fileOf (x.1.setFile i ⟨(fileOf x.1.files i).data.take (su + pk), su + pk⟩).files i = ⟨(fileOf x.1.files i).data.take (su + pk), su + pk⟩ := by
              unfold St.setFile
              simp only
              rw [fileOf_set, if_pos ⟨rfl, hfw⟩]
            rw [e1, List.length_take, ← hle.out, Nat.min_eq_left (by omega), Int.natCast_add] at h1
            exact h1
          clear d8 g8 hC7 hb7 fc7 fcV c3V
          have hs8 := IntWalk.i64_in (x.1.used + ((su : Int) + (pk : Int))) ⟨by omega, by omega⟩
          go_wp2
          go_still_tail 7, (by kernel_rfl)
          still_call (SZ8.out w8.drew rfl)
          repeat still_step
          refine wpStill_nil ?_
          change wpList _ _ _ _ _ w8.drew
          have d9 : Hid (DiskAt base own8 p (x.1.setFile i ⟨(fileOf x.1.files i).data.take (su + pk), su + pk⟩) w8.drew) := Lib.hid (D8.out.same rfl)
          have c9 : Hid (Chooses cb B x.2.tail w8.drew) := Lib.hid (c8.out.keep rfl fun _ => rfl)
          have g9 : Hid (Grow (plus own4 B) (plus own8 B) w6 w8.drew) := Lib.hid (G8.out.trans (grow_d _ _))
          have e9 : w8.drew.cell? ⟨p, 3, none⟩ = some (.int .i64 x.1.used) := e8
          have f9 : w8.drew.frozen? ⟨p, 3, none⟩ = false := d9.out.frozen 3
          clear e8 SZ8
          generalize w8.drew = V9 at *
          go_wp2
          have dd : Hid (DiskAt base own8 p { (x.1.setFile i ⟨(fileOf x.1.files i).data.take (su + pk), su + pk⟩) with used := (x.1.setFile i ⟨(fileOf x.1.files i).data.take (su + pk), su + pk⟩).used + ((su : Int) + (pk : Int)) } (V9.setCell ⟨p, 3, none⟩ (.int .i64 (x.1.used + ((su : Int) + (pk : Int)))))) := Lib.hid (d9.out.put 3 _ rfl rfl rfl rfl (fun _ _ _ => rfl))
          have cc9 : Hid (Chooses cb B x.2.tail (V9.setCell ⟨p, 3, none⟩ (.int .i64 (x.1.used + ((su : Int) + (pk : Int)))))) := Lib.hid (c9.out.other (d9.out.grow_put 3 _) n8.out t8.out)
          have gg : Hid (Grow (plus own4 B) (plus own8 B) w6 (V9.setCell ⟨p, 3, none⟩ (.int .i64 (x.1.used + ((su : Int) + (pk : Int)))))) := Lib.hid (g9.out.trans ((d9.out.grow_put 3 _).plus B))
          go_roundw
          case rel => exact ⟨j + 1, by omega, by go_num, by rw [hnext.out, ONE.out]; exact ⟨own8, dd.out, cc9.out, gg.out, n8.out, t8.out⟩⟩
          case measure => simp [intOf]; omega
      · have hpos : ¬ (0 : Int) < (le : Int) - (su : Int) := by omega
        have ONE : Hid (St.crashOne x (nm, i) = ({ x.1 with used := x.1.used + (le : Int) }, x.2)) := Lib.hid (by
          unfold St.crashOne
          simp only
          rw [← hsu.out, ← hle.out, if_neg hun])
        have SZV : Hid (∀ u : World, u.heap = V.heap → Calls Try.prog 42 #[at0 fb] u fun e w' => e = .returned (.int .i64 (le : Int)) ∧ w' = u) := Lib.hid fun u hu => by
          have h1 := size_same ((dV.out.same hu).files fb i hfb)
          rw [← hle.out] at h1
          exact h1
        clear fcV
        have hs8 := IntWalk.i64_in (x.1.used + (le : Int)) ⟨by omega, by omega⟩
        go_wp2
        go_still_tail 7, (by kernel_rfl)
        still_call (SZV.out V.drew rfl)
        repeat still_step
        refine wpStill_nil ?_
        change wpList _ _ _ _ _ V.drew
        have d9 : Hid (DiskAt base oX p x.1 V.drew) := Lib.hid (dV.out.same rfl)
        have c9 : Hid (Chooses cb B x.2 V.drew) := Lib.hid (cV.out.keep rfl fun _ => rfl)
        have g9 : Hid (Grow (plus own4 B) (plus oX B) w6 V.drew) := Lib.hid (gV.out.trans (grow_d _ _))
        have e9 : V.drew.cell? ⟨p, 3, none⟩ = some (.int .i64 x.1.used) := c3V
        have f9 : V.drew.frozen? ⟨p, 3, none⟩ = false := d9.out.frozen 3
        clear c3V SZV
        generalize V.drew = V9 at *
        go_wp2
        have dd : Hid (DiskAt base oX p { x.1 with used := x.1.used + (le : Int) } (V9.setCell ⟨p, 3, none⟩ (.int .i64 (x.1.used + (le : Int))))) := Lib.hid (d9.out.put 3 _ rfl rfl rfl rfl (fun _ _ _ => rfl))
        have cc9 : Hid (Chooses cb B x.2 (V9.setCell ⟨p, 3, none⟩ (.int .i64 (x.1.used + (le : Int))))) := Lib.hid (c9.out.other (d9.out.grow_put 3 _) nX.out tX.out)
        have gg : Hid (Grow (plus own4 B) (plus oX B) w6 (V9.setCell ⟨p, 3, none⟩ (.int .i64 (x.1.used + (le : Int))))) := Lib.hid (g9.out.trans ((d9.out.grow_put 3 _).plus B))
        go_roundw
        case rel => exact ⟨j + 1, by omega, by go_num, by rw [hnext.out, ONE.out]; exact ⟨oX, dd.out, cc9.out, gg.out, nX.out, tX.out⟩⟩
        case measure => simp [intOf]; omega
    · have hjd : j = d.length := by omega
      have hfin : Hid ((d.take j).foldl St.crashOne (st.crashed cs, cs.tail) = d.foldl St.crashOne (st.crashed cs, cs.tail)) := Lib.hid (by rw [hjd, List.take_length])
      have fin : Hid (st.crash cs = { x.1 with fuse := 0, down := false }) := Lib.hid (by unfold St.crash; rw [hx.out, hfin.out, hd.out])
      obtain ⟨_, _, _, _, _, _, hpX, _⟩ := dX.disk
      obtain ⟨_, _, _, _, _, _, x6, x7⟩ := disk_cells hpX
      have z6 : wr.frozen? ⟨p, 6, none⟩ = false := dX.frozen 6
      have z7 : wr.frozen? ⟨p, 7, none⟩ = false := dX.frozen 7
      have e1 : DiskAt base oX p { x.1 with fuse := 0 } (wr.setCell ⟨p, 6, none⟩ (.int .i64 0)) := dX.put 6 _ rfl rfl rfl rfl (fun _ _ _ => rfl)
      have e2 : DiskAt base oX p { x.1 with fuse := 0, down := false } ((wr.setCell ⟨p, 6, none⟩ (.int .i64 0)).setCell ⟨p, 7, none⟩ (.bool false)) := e1.put 7 _ rfl rfl rfl rfl (fun _ _ _ => rfl)
      have gE : Grow own oX w ((wr.setCell ⟨p, 6, none⟩ (.int .i64 0)).setCell ⟨p, 7, none⟩ (.bool false)) :=
        Grow.minus hb1.out (Nat.le_of_eq hBB'.out) (((g6.out.trans gX).trans ((dX.grow_put 6 _).plus B)).trans ((e1.grow_put 7 _).plus B))
      have R : Hid (Did base own p (st.crash cs) (.tuple #[]) w (.returned (.tuple #[])) ((wr.setCell ⟨p, 6, none⟩ (.int .i64 0)).setCell ⟨p, 7, none⟩ (.bool false))) := Lib.hid ⟨oX, rfl, by rw [fin.out]; exact e2, gE⟩
      clear hpX e1 e2 gE dX cX gX nX k2' hjd
      go_wp2
      go_end0
      exact R.out
end Go.Proofs.Ytheealfappjabaa
