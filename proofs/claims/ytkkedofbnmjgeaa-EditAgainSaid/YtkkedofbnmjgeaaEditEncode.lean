/-
  The program's Encode. Condition: texts of fewer than 2^47 bytes (every edit that came in).
-/
import Derived.Test.YtkkedofbnmjgeaaEditPut
namespace Go.Proofs.Ytkkedofbnmjgeaa
set_option maxRecDepth 100000
open Go.RowKit
theorem wrU (n : Nat) (h : n ≤ 18446744073709551615) : IntKind.u64.wrap (n : Int) = (n : Int) := by rw [IntKind.wrap_u64]; omega
/-- What Encode answers. -/
noncomputable def encTxt (e : Ed) : List UInt8 := open Classical in if ListedP e ∧ e.gone.length ≤ 256 ∧ e.added.length ≤ 256 then encE e else []
noncomputable def encErr (e : Ed) : Nat := open Classical in if ListedP e then (if e.gone.length ≤ 256 ∧ e.added.length ≤ 256 then 0 else 3) else 2
/-- The closure, at a slice that was just made. -/
theorem put_at {b : Nat} {l : List UInt8} {u : World} (ns : List Nat) (cs : Array Value) (n : Nat) (hn : ns.length = n) (hcs : cs.toList = ns.flatMap cellsN) (hk : n ≤ 4) (hns : ∀ n ∈ ns, n ≤ 18446744073709551615) (hb : Bld b b l u) (hl : l.length ≤ 70368744177664) :
    Calls Try.prog 50 #[.slice (some ⟨u.heap.size, 0, none⟩) n n, .pointer (some ⟨b, 0, none⟩)] (u.alloc (.cells cs 22)) fun e w' => e = .returned (.tuple #[]) ∧ Wrote b b (l ++ ns.flatMap Code.uvar) u w' := by
  subst hn
  have hlt := (bld_lt hb).1
  refine (put_any (g := u.heap.size) ns cs hcs hk hns (heap_alloc_new _ _) (by omega) (hb.below (below_alloc _ _)) (by rw [World.size_alloc]; omega) hl).mono fun e w' ⟨h1, h2⟩ => ⟨h1, Wrote.pre (below_alloc _ _) (by omega) h2⟩
/-- What stands in Encode's rounds: the builder holds l. -/
structure EcI (l : List UInt8) (w1 wr : World) : Prop where
  bel : Below w1.heap.size w1 wr
  bld : Bld w1.heap.size w1.heap.size l wr
theorem EcI.alloc {l : List UInt8} {w1 wr : World} (h : EcI l w1 wr) (o : Obj) : EcI l w1 (wr.alloc o) := ⟨below_of h.bel (below_alloc _ _), h.bld.below (below_alloc _ _)⟩
theorem EcI.wrote {l k : List UInt8} {w1 u u' : World} (h : EcI l w1 u) (g : Wrote w1.heap.size w1.heap.size k u u') : EcI k w1 u' := ⟨h.bel.trans g.bel, g.bld⟩
theorem len_encG (x : Gn) (h : GnIn x) : (encG x).length ≤ 30 := by
  unfold encG
  have h1 := h.1
  have h2 := i64_range h1
  have a := uvar_le x.lev.toNat (by omega)
  have b := uvar_le x.num h.2
  rw [List.length_append]
  omega
theorem len_fld (s : ByteArray) (h : s.size ≤ 520) : (fldB s).length ≤ 530 := by
  unfold fldB
  have a := uvar_le s.size (by omega)
  have b : s.data.toList.length = s.size := by rw [Array.length_toList]; rfl
  rw [List.length_append]
  omega
theorem len_encP (p : Pl) (h : LevP p.lev ∧ MayP p.tb) (hI : PlIn p) : (encP p).length ≤ 2000 := by
  unfold encP
  have a := uvar_le p.lev.toNat (by have := h.1.2; omega)
  have b := uvar_le p.tb.num hI.2.1
  have c := uvar_le p.tb.size.toNat (by have := h.2.2.2.2.1; omega)
  have d := uvar_le p.tb.rows.toNat (by have := h.2.2.2.2.2.2.1; omega)
  have e := len_fld p.tb.fst h.2.2.2.2.2.2.2.2.1
  have f := len_fld p.tb.lst h.2.2.2.2.2.2.2.2.2.2.1
  have g := uvar_le p.tb.least hI.2.2.2.2.1
  have i := uvar_le p.tb.gr hI.2.2.2.2.2.1
  simp only [List.length_append]
  omega
theorem flat_len {α : Type} (f : α → List UInt8) (k : Nat) : ∀ (l : List α), (∀ y ∈ l, (f y).length ≤ k) → (l.flatMap f).length ≤ k * l.length
  | [], _ => by simp
  | y :: r, h => by
    have h1 := h y (List.mem_cons_self ..)
    have h2 := flat_len f k r (fun z hz => h z (List.mem_cons_of_mem _ hz))
    rw [List.flatMap_cons, List.length_append, List.length_cons, Nat.mul_add, Nat.mul_one]
    omega
def encA (e : Ed) : List UInt8 := Code.uvar e.log ++ (Code.uvar e.next ++ (Code.uvar e.seq ++ Code.uvar e.gone.length))
theorem len_encA (e : Ed) (h : EdIn e) (hg : e.gone.length ≤ 256) : (encA e).length ≤ 40 := by
  unfold encA
  have a := uvar_le e.log h.1
  have b := uvar_le e.next h.2.1
  have c := uvar_le e.seq h.2.2.1
  have d := uvar_le e.gone.length (by omega)
  simp only [List.length_append]
  omega
theorem len_B (e : Ed) (h : EdIn e) (hg : e.gone.length ≤ 256) (j : Nat) : (encA e ++ (e.gone.take j).flatMap encG).length ≤ 100000 := by
  have a := len_encA e h hg
  have b := flat_len encG 30 (e.gone.take j) (fun y hy => len_encG y (h.2.2.2.1 y (List.mem_of_mem_take hy)))
  have c : (e.gone.take j).length ≤ 256 := by rw [List.length_take]; omega
  rw [List.length_append]
  omega
theorem len_C (e : Ed) (h : EdIn e) (hL : ListedP e) (hg : e.gone.length ≤ 256) (ha : e.added.length ≤ 256) (j : Nat) : (encA e ++ e.gone.flatMap encG ++ Code.uvar e.added.length ++ (e.added.take j).flatMap encP).length ≤ 1000000 := by
  have a := len_B e h hg e.gone.length
  rw [List.take_length] at a
  have b := uvar_le e.added.length (by omega)
  have d := flat_len encP 2000 (e.added.take j) (fun y hy => len_encP y (hL.2 y (List.mem_of_mem_take hy)) (h.2.2.2.2 y (List.mem_of_mem_take hy)))
  have c : (e.added.take j).length ≤ 256 := by rw [List.length_take]; omega
  rw [List.length_append] at a ⊢
  simp only [List.length_append] at a ⊢
  omega
theorem encA_flat (e : Ed) : [e.log, e.next, e.seq, e.gone.length].flatMap Code.uvar = encA e := by simp [encA]
set_option maxRecDepth 100000 in
set_option maxHeartbeats 16000000 in
theorem encode_main {e : Ed} {hg ha : Hd} {w : World} (h : EdAt e hg ha w) (hI : EdIn e) (hL : ListedP e) (hgl : hg.n ≤ 256) (hal : ha.n ≤ 256) : Calls Try.prog 25 #[edV e hg ha] w fun r w' => r = .returned (.tuple #[.string ⟨(encE e).toArray⟩, .int .i64 0]) ∧ Below w.heap.size w w' := by
  have LC := islisted_any (h.below (below_alloc w (edO e hg ha)))
  rw [tf_true hL] at LC
  replace LC := Lib.hid LC
  obtain ⟨ga, gn, gc, gb, go⟩ := hg
  obtain ⟨aa, an, ac, ab, ao⟩ := ha
  replace hgl : gn ≤ 256 := hgl
  replace hal : an ≤ 256 := hal
  have m1 : gc ≤ 9223372036854775807 := h.gone.sl.most
  have m2 : ac ≤ 9223372036854775807 := h.added.sl.most
  have q1 : gn ≤ gc := h.gone.sl.cap
  have q2 : an ≤ ac := h.added.sl.cap
  have e1 : Hid (e.gone.length = gn) := Lib.hid h.gone.len
  have e2 : Hid (e.added.length = an) := Lib.hid h.added.len
  have E0 := Lib.hid (EdB.new e ⟨ga, gn, gc, gb, go⟩ ⟨aa, an, ac, ab, ao⟩ w)
  have B0 := Lib.hid (below_alloc w (edO e ⟨ga, gn, gc, gb, go⟩ ⟨aa, an, ac, ab, ao⟩))
  have g1 : ¬ (256 : Int) < (gn : Int) := by omega
  have g2 : ¬ (256 : Int) < (an : Int) := by omega
  have w3 := wrU gn (by omega)
  have w4 := wrU an (by omega)
  replace h := Lib.hid h
  replace hI := Lib.hid hI
  replace hL := Lib.hid hL
  obtain ⟨Z, hZ⟩ := named (encE e)
  rw [← hZ.out]
  replace hZ := Lib.hid hZ.out
  go_enter Try.func25, Try.ntmps25
  go_upto_region 5 with (go_at_call 27; ((with_reducible refine LC.out.mono ?_); rintro r w1 ⟨rfl, hb1⟩; have B1 := Lib.hid (below_of B0.out hb1); have E1 := Lib.hid (E0.out.below hb1); clear hb1; obtain ⟨c0, c1, c2, c3, c4⟩ := E1.out.cells))
  have b0 : Hid (EcI [] w1 (w1.alloc (.cells #[.pointer none, .slice none 0 0] 86))) := Lib.hid ⟨below_alloc _ _, bld_new w1⟩
  have P0 := put_at (u := w1.alloc (.cells #[.pointer none, .slice none 0 0] 86)) [e.log, e.next, e.seq, e.gone.length] #[.int .u64 (e.log : Int), .int .u64 (e.next : Int), .int .u64 (e.seq : Int), .int .u64 (gn : Int)] 4 rfl (by rw [e1.out]; rfl) (by omega) (by
    intro n hn
    have := hI.out
    simp only [List.mem_cons, List.not_mem_nil, or_false] at hn
    rcases hn with rfl | rfl | rfl | rfl
    · exact this.1
    · exact this.2.1
    · exact this.2.2.1
    · rw [e1.out]; omega) b0.out.bld (by simp)
  rw [World.size_alloc, encA_flat, List.nil_append] at P0
  replace P0 := Lib.hid P0
  have EE : Hid (∀ u, Below w1.heap.size w1 u → EdB w.heap.size e ⟨ga, gn, gc, gb, go⟩ ⟨aa, an, ac, ab, ao⟩ u ∧ EdAt e ⟨ga, gn, gc, gb, go⟩ ⟨aa, an, ac, ab, ao⟩ u) := Lib.hid (fun u hu => ⟨E1.out.below hu, (h.out.below B1.out).below hu⟩)
  obtain ⟨k0, k1, k2, k3, k4⟩ := (EE.out _ b0.out.bel).1.cells
  go_wp2_with (go_at_call 50; ((with_reducible refine P0.out.mono ?_); rintro r w2 ⟨rfl, hw2⟩; have I2 := Lib.hid (b0.out.wrote hw2); clear hw2; obtain ⟨d0, d1, d2, d3, d4⟩ := (EE.out _ I2.out.bel).1.cells))
  clear P0 LC b0
  replace E0 := Lib.hid trivial
  go_loopw [41] (fun i wr => ∃ j : Nat, j ≤ gn ∧ i = .int .i64 (j : Int) ∧ Hid (EcI (encA e ++ (e.gone.take j).flatMap encG) w1 wr)) (fun i _ => gn - (intOf i).toNat)
  case atStart => exact ⟨0, Nat.zero_le _, rfl, by simpa using I2⟩
  case round =>
    obtain ⟨j, hj, rfl, hc⟩ := hrel
    by_cases hlt : j < gn
    · obtain ⟨x, hx, rfl, hbl, x0, x1⟩ := (EE.out _ hc.out.bel).2.gone.at2x hlt
      obtain ⟨k0, k1, k2, k3, k4⟩ := (EE.out _ hc.out.bel).1.cells
      have hxl := hL.out.1 x (List.mem_of_getElem? hx)
      have hxi := hI.out.2.2.2.1 x (List.mem_of_getElem? hx)
      have hnx : Hid (encA e ++ (e.gone.take j).flatMap encG ++ encG x = encA e ++ (e.gone.take (j + 1)).flatMap encG) := Lib.hid (by rw [List.take_add_one, hx]; simp)
      have hln := len_B e hI.out (by rw [e1.out]; exact hgl) j
      obtain ⟨xl, xn⟩ := x
      obtain ⟨lv, rfl⟩ : ∃ lv : Nat, xl = (lv : Int) := ⟨xl.toNat, by have := hxl.1; simp only at this; omega⟩
      have hlv : lv < 4 := by have := hxl.2; simp only at this; omega
      have w5 := wrU lv (by omega)
      have J1 := Lib.hid (hc.out.alloc (gnO ⟨(lv : Int), xn⟩))
      have P1 := put_at (u := wr.alloc (gnO ⟨(lv : Int), xn⟩)) [lv, xn] #[.int .u64 (lv : Int), .int .u64 (xn : Int)] 2 rfl rfl (by omega) (by
        intro n hn
        simp only [List.mem_cons, List.not_mem_nil, or_false] at hn
        rcases hn with rfl | rfl
        · omega
        · exact hxi.2) J1.out.bld (by omega)
      rw [World.size_alloc, show [lv, xn].flatMap Code.uvar = encG ⟨(lv : Int), xn⟩ by simp [encG], hnx.out] at P1
      replace P1 := Lib.hid P1
      have i0 : (j : Int) < (gn : Int) := by omega
      clear hx hxl hxi hln hnx
      simp only at x0 x1
      go_wp2_with (go_at_call 50; ((with_reducible refine P1.out.mono ?_); rintro r w7 ⟨rfl, hw7⟩; have I7 := Lib.hid (J1.out.wrote hw7); clear hw7))
      go_roundw
      case rel => exact ⟨j + 1, by omega, by go_num, I7⟩
      case measure => simp [intOf]; omega
    · have i0 : ¬ (j : Int) < (gn : Int) := by omega
      have et : Hid (e.gone.take j = e.gone) := Lib.hid (List.take_of_length_le (by rw [e1.out]; omega))
      rw [et.out] at hc
      obtain ⟨k0, k1, k2, k3, k4⟩ := (EE.out _ hc.out.bel).1.cells
      have hln := len_B e hI.out (by rw [e1.out]; exact hgl) e.gone.length
      rw [List.take_length] at hln
      have P2 := put_at (u := wr) [an] #[.int .u64 (an : Int)] 1 rfl rfl (by omega) (by
        intro n hn
        simp only [List.mem_cons, List.not_mem_nil, or_false] at hn
        omega) hc.out.bld (by omega)
      rw [show [an].flatMap Code.uvar = Code.uvar e.added.length by rw [e2.out]; simp] at P2
      replace P2 := Lib.hid P2
      clear hln
      go_wp2_with (go_at_call 50; ((with_reducible refine P2.out.mono ?_); rintro r w8 ⟨rfl, hw8⟩; have I8 := Lib.hid (hc.out.wrote hw8); clear hw8; obtain ⟨f0, f1, f2, f3, f4⟩ := (EE.out _ I8.out.bel).1.cells))
      clear P2 hc k0 k1 k2 k3 k4
      go_loopw [64] (fun i wr => ∃ j : Nat, j ≤ an ∧ i = .int .i64 (j : Int) ∧ Hid (EcI (encA e ++ e.gone.flatMap encG ++ Code.uvar e.added.length ++ (e.added.take j).flatMap encP) w1 wr)) (fun i _ => an - (intOf i).toNat)
      case atStart => exact ⟨0, Nat.zero_le _, rfl, by simpa using I8⟩
      case round =>
        obtain ⟨k, hk, rfl, hd⟩ := hrel
        by_cases hlt2 : k < an
        · obtain ⟨x, hx, rfl, hbl, x0, x1, x2, x3, x4, x5, x6, x7⟩ := (EE.out _ hd.out.bel).2.added.at8x hlt2
          have hxl := hL.out.2 x (List.mem_of_getElem? hx)
          have hxi := hI.out.2.2.2.2 x (List.mem_of_getElem? hx)
          have hnx : Hid (encA e ++ e.gone.flatMap encG ++ Code.uvar e.added.length ++ (e.added.take k).flatMap encP ++ encP x = encA e ++ e.gone.flatMap encG ++ Code.uvar e.added.length ++ (e.added.take (k + 1)).flatMap encP) := Lib.hid (by rw [List.take_add_one, hx]; simp)
          have hln := Lib.hid (len_C e hI.out hL.out (by rw [e1.out]; exact hgl) (by rw [e2.out]; exact hal) k)
          have j0 : (k : Int) < (an : Int) := by omega
          replace hx := Lib.hid hx
          obtain ⟨xl, xn, xsz, xrw, xf, xla, xle, xg⟩ := x
          obtain ⟨lv, rfl⟩ : ∃ lv : Nat, xl = (lv : Int) := ⟨xl.toNat, by have := hxl.1.1; simp only at this; omega⟩
          obtain ⟨sz, rfl⟩ : ∃ sz : Nat, xsz = (sz : Int) := ⟨xsz.toNat, by have := hxl.2.2.2.1; simp only at this; omega⟩
          obtain ⟨rw', rfl⟩ : ∃ r : Nat, xrw = (r : Int) := ⟨xrw.toNat, by have := hxl.2.2.2.2.2.1; simp only at this; omega⟩
          have hlv : lv < 4 := by have := hxl.1.2; simp only at this; omega
          have hsz : sz ≤ 262144 := by have := hxl.2.2.2.2.1; simp only at this; omega
          have hrw : rw' ≤ 262144 := by have := hxl.2.2.2.2.2.2.1; simp only at this; omega
          have hfs : xf.size ≤ 520 := hxl.2.2.2.2.2.2.2.2.1
          have hls : xla.size ≤ 520 := hxl.2.2.2.2.2.2.2.2.2.2.1
          have hn1 : xn ≤ 18446744073709551615 := hxi.2.1
          have hn2 : xle ≤ 18446744073709551615 := hxi.2.2.2.2.1
          have hn3 : xg ≤ 18446744073709551615 := hxi.2.2.2.2.2.1
          clear hxl hxi
          simp only at x0 x1 x2 x3 x4 x5 x6 x7
          have w5 := wrU lv (by omega)
          have w6 := wrU sz (by omega)
          have w7 := wrU rw' (by omega)
          obtain ⟨Lb, hLb⟩ := named (encA e ++ e.gone.flatMap encG ++ Code.uvar e.added.length ++ (e.added.take k).flatMap encP)
          rw [← hLb.out] at hd hnx hln
          replace hLb := Lib.hid trivial
          have J1 := Lib.hid ((hd.out.alloc (plO ⟨(lv : Int), ⟨xn, (sz : Int), (rw' : Int), xf, xla, xle, xg⟩⟩)).alloc (mtO ⟨xn, (sz : Int), (rw' : Int), xf, xla, xle, xg⟩))
          have P1 := put_at (u := (wr.alloc (plO ⟨(lv : Int), ⟨xn, (sz : Int), (rw' : Int), xf, xla, xle, xg⟩⟩)).alloc (mtO ⟨xn, (sz : Int), (rw' : Int), xf, xla, xle, xg⟩)) [lv, xn, sz, rw'] #[.int .u64 (lv : Int), .int .u64 (xn : Int), .int .u64 (sz : Int), .int .u64 (rw' : Int)] 4 rfl rfl (by omega) (by
            intro n hn
            simp only [List.mem_cons, List.not_mem_nil, or_false] at hn
            rcases hn with rfl | rfl | rfl | rfl
            · omega
            · exact hn1
            · omega
            · omega) J1.out.bld (by have := hln.out; omega)
          rw [World.size_alloc, World.size_alloc] at P1
          obtain ⟨U1, hU1⟩ := named ([lv, xn, sz, rw'].flatMap Code.uvar)
          rw [← hU1.out] at P1
          replace P1 := Lib.hid P1
          have lU1 : Hid (U1.length ≤ 40) := Lib.hid (by
            rw [hU1.out]
            have := flat_le Code.uvar [lv, xn, sz, rw'] (by
              intro n hn
              simp only [List.mem_cons, List.not_mem_nil, or_false] at hn
              rcases hn with rfl | rfl | rfl | rfl
              · exact uvar_le _ (by omega)
              · exact uvar_le _ hn1
              · exact uvar_le _ (by omega)
              · exact uvar_le _ (by omega))
            simpa using this)
          -- the box of the table, kept by what writes to the builder
          have MB : Hid (((wr.alloc (plO ⟨(lv : Int), ⟨xn, (sz : Int), (rw' : Int), xf, xla, xle, xg⟩⟩)).alloc (mtO ⟨xn, (sz : Int), (rw' : Int), xf, xla, xle, xg⟩)).heap[wr.heap.size + 1]? = some (mtO ⟨xn, (sz : Int), (rw' : Int), xf, xla, xle, xg⟩)) := Lib.hid (by
            have := heap_alloc_new (wr.alloc (plO ⟨(lv : Int), ⟨xn, (sz : Int), (rw' : Int), xf, xla, xle, xg⟩⟩)) (mtO ⟨xn, (sz : Int), (rw' : Int), xf, xla, xle, xg⟩)
            rw [World.size_alloc] at this
            exact this)
          have hne : Hid (wr.heap.size + 1 ≠ w1.heap.size) := Lib.hid (by have := hd.out.bel.size; omega)
          have KM : Hid (∀ u u' : World, u.heap[wr.heap.size + 1]? = some (mtO ⟨xn, (sz : Int), (rw' : Int), xf, xla, xle, xg⟩) → Spares w1.heap.size u u' → u'.heap[wr.heap.size + 1]? = some (mtO ⟨xn, (sz : Int), (rw' : Int), xf, xla, xle, xg⟩)) := Lib.hid (fun u u' h1 h2 => spares_cells h2 h1 hne.out (by decide))
          have CM : Hid (∀ u : World, u.heap[wr.heap.size + 1]? = some (mtO ⟨xn, (sz : Int), (rw' : Int), xf, xla, xle, xg⟩) → u.cell? ⟨wr.heap.size + 1, 0, none⟩ = some (.int .u64 (xn : Int)) ∧ u.cell? ⟨wr.heap.size + 1, 3, none⟩ = some (.string xf) ∧ u.cell? ⟨wr.heap.size + 1, 4, none⟩ = some (.string xla) ∧ u.cell? ⟨wr.heap.size + 1, 5, none⟩ = some (.int .u64 (xle : Int)) ∧ u.cell? ⟨wr.heap.size + 1, 6, none⟩ = some (.int .u64 (xg : Int))) := Lib.hid (fun u hu => by simp [World.cell?, hu])
          have F1 := Lib.hid (fun u => putfield_any xf (by unfold reachBytes; omega) u)
          have F2 := Lib.hid (fun u => putfield_any xla (by unfold reachBytes; omega) u)
          obtain ⟨V1, hV1⟩ := named (Code.uvar xf.size ++ xf.data.toList)
          obtain ⟨V2, hV2⟩ := named (Code.uvar xla.size ++ xla.data.toList)
          rw [← hV1.out] at F1
          rw [← hV2.out] at F2
          have lV1 : Hid (V1.length ≤ 530) := Lib.hid (by rw [hV1.out]; exact len_fld xf hfs)
          have lV2 : Hid (V2.length ≤ 530) := Lib.hid (by rw [hV2.out]; exact len_fld xla hls)
          have zV : Hid (∀ V : List UInt8, (⟨V.toArray⟩ : ByteArray).size = V.length ∧ (⟨V.toArray⟩ : ByteArray).data.toList = V) := Lib.hid (fun V => ⟨by simp [ByteArray.size], by simp⟩)
          have S1 : Hid (∀ u, EcI (Lb ++ U1) w1 u → Calls Try.prog 51 #[.pointer (some ⟨w1.heap.size, 0, none⟩), .string ⟨V1.toArray⟩] u fun r w' => r = .returned (.tuple #[.int .i64 (⟨V1.toArray⟩ : ByteArray).size, .nilIface]) ∧ Wrote w1.heap.size w1.heap.size (Lb ++ U1 ++ V1) u w') := Lib.hid (fun u hu => (bld_string hu.bld hu.bel.size ⟨V1.toArray⟩ (by rw [(zV.out V1).1, List.length_append]; have := hln.out; have := lU1.out; have := lV1.out; omega)).mono fun r w' ⟨a1, a2, a3, a4⟩ => ⟨a1, by rw [(zV.out V1).2] at a2; exact a2, a3, a4⟩)
          have S2 : Hid (∀ u, EcI (Lb ++ U1 ++ V1) w1 u → Calls Try.prog 51 #[.pointer (some ⟨w1.heap.size, 0, none⟩), .string ⟨V2.toArray⟩] u fun r w' => r = .returned (.tuple #[.int .i64 (⟨V2.toArray⟩ : ByteArray).size, .nilIface]) ∧ Wrote w1.heap.size w1.heap.size (Lb ++ U1 ++ V1 ++ V2) u w') := Lib.hid (fun u hu => (bld_string hu.bld hu.bel.size ⟨V2.toArray⟩ (by rw [(zV.out V2).1, List.length_append, List.length_append]; have := hln.out; have := lU1.out; have := lV1.out; have := lV2.out; omega)).mono fun r w' ⟨a1, a2, a3, a4⟩ => ⟨a1, by rw [(zV.out V2).2] at a2; exact a2, a3, a4⟩)
          have P3 : Hid (∀ u, EcI (Lb ++ U1 ++ V1 ++ V2) w1 u → Calls Try.prog 50 #[.slice (some ⟨u.heap.size, 0, none⟩) 2 2, .pointer (some ⟨w1.heap.size, 0, none⟩)] (u.alloc (.cells #[.int .u64 (xle : Int), .int .u64 (xg : Int)] 22)) fun r w' => r = .returned (.tuple #[]) ∧ Wrote w1.heap.size w1.heap.size (Lb ++ U1 ++ V1 ++ V2 ++ [xle, xg].flatMap Code.uvar) u w') := Lib.hid (fun u hu => put_at [xle, xg] #[.int .u64 (xle : Int), .int .u64 (xg : Int)] 2 rfl rfl (by omega) (by
            intro n hn
            simp only [List.mem_cons, List.not_mem_nil, or_false] at hn
            rcases hn with rfl | rfl
            · exact hn2
            · exact hn3) hu.bld (by rw [List.length_append, List.length_append, List.length_append]; have := hln.out; have := lU1.out; have := lV1.out; have := lV2.out; omega))
          have hend : Hid (Lb ++ U1 ++ V1 ++ V2 ++ [xle, xg].flatMap Code.uvar = encA e ++ e.gone.flatMap encG ++ Code.uvar e.added.length ++ (e.added.take (k + 1)).flatMap encP) := Lib.hid (by
            rw [← hnx.out, hU1.out, hV1.out, hV2.out]
            simp [encP, fldB])
          clear hn1 hn2 hn3 hfs hls hsz hrw hlv
          replace hU1 := Lib.hid trivial
          replace hV1 := Lib.hid trivial
          replace hV2 := Lib.hid trivial
          go_wp2_with (first
            | (go_at_call 50; ((with_reducible refine P1.out.mono ?_); rintro r w2' ⟨rfl, hw2⟩; have I3 := Lib.hid (J1.out.wrote hw2); have M3 := Lib.hid (KM.out _ _ MB.out hw2.sp); obtain ⟨r0, r3, r4, r5, r6⟩ := CM.out _ M3.out; clear hw2))
            | (go_at_call 53; ((with_reducible refine (F1.out _).mono ?_); rintro r w4' ⟨rfl, hb4⟩; have I4 : Hid (EcI (Lb ++ U1) w1 w4') := Lib.hid ⟨below_of I3.out.bel hb4, I3.out.bld.below hb4⟩; have M4 := Lib.hid (KM.out _ _ M3.out (Spares.below hb4)); clear hb4))
            | (go_at_call 51; ((with_reducible refine (S1.out _ I4.out).mono ?_); rintro r w5' ⟨rfl, hw5⟩; have I5 := Lib.hid (I4.out.wrote hw5); have M5 := Lib.hid (KM.out _ _ M4.out hw5.sp); obtain ⟨s0, s3, s4, s5, s6⟩ := CM.out _ M5.out; clear hw5))
            | (go_at_call 53; ((with_reducible refine (F2.out _).mono ?_); rintro r w6' ⟨rfl, hb6⟩; have I6 : Hid (EcI (Lb ++ U1 ++ V1) w1 w6') := Lib.hid ⟨below_of I5.out.bel hb6, I5.out.bld.below hb6⟩; have M6 := Lib.hid (KM.out _ _ M5.out (Spares.below hb6)); clear hb6))
            | (go_at_call 51; ((with_reducible refine (S2.out _ I6.out).mono ?_); rintro r w7' ⟨rfl, hw7⟩; have I7 := Lib.hid (I6.out.wrote hw7); have M7 := Lib.hid (KM.out _ _ M6.out hw7.sp); obtain ⟨t0, t3, t4, t5, t6⟩ := CM.out _ M7.out; clear hw7))
            | (go_at_call 50; ((with_reducible refine (P3.out _ I7.out).mono ?_); rintro r w9' ⟨rfl, hw9⟩; have I9 := Lib.hid (I7.out.wrote hw9); rw [hend.out] at I9; clear hw9)))
          go_roundw
          case rel => exact ⟨k + 1, by omega, by go_num, I9⟩
          case measure => simp [intOf]; omega
        · have j0 : ¬ (k : Int) < (an : Int) := by omega
          have et2 : Hid (e.added.take k = e.added) := Lib.hid (List.take_of_length_le (by rw [e2.out]; omega))
          have hfin : Hid (encA e ++ e.gone.flatMap encG ++ Code.uvar e.added.length ++ (e.added.take k).flatMap encP = Z) := Lib.hid (by rw [et2.out, hZ.out]; unfold encE encA; rfl)
          rw [hfin.out] at hd
          have TC := Lib.hid (bld_text hd.out.bld hd.out.bel.size)
          go_wp2_with (go_at_call 54; ((with_reducible refine TC.out.mono ?_); rintro r w9 ⟨rfl, hb9⟩; have B9 := Lib.hid (below_of B1.out (hd.out.bel.trans hb9)); clear hb9))
          go_returns
          exact ⟨rfl, B9.out⟩
end Go.Proofs.Ytkkedofbnmjgeaa
