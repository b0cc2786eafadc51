/-
  The program's Encode. Condition: texts of fewer than 2^47 bytes (every edit that came in).
-/
import Derived.Test.YtnmjfdejgfmoiaaPack12
namespace Go.Proofs.Ytnmjfdejgfmoiaa
set_option maxRecDepth 100000
open Go.RowKit
theorem wrU (n : Nat) (h : n ≤ 18446744073709551615) : IntKind.u64.wrap (n : Int) = (n : Int) := by rw [IntKind.wrap_u64]; omega
/-- What Encode answers. -/
noncomputable def encTxt (e : Ed) : List UInt8 := open Classical in if ListedP e ∧ e.gone.length ≤ 256 ∧ e.added.length ≤ 256 then encE e else []
noncomputable def encErr (e : Ed) : Nat := open Classical in if ListedP e then (if e.gone.length ≤ 256 ∧ e.added.length ≤ 256 then 0 else 3) else 2
/-- The closure, at a slice that was just made. -/
theorem put_at {b : Nat} {l : List UInt8} {u : World} (ns : List Nat) (cs : Array Value) (n : Nat) (hn : ns.length = n) (hcs : cs.toList = ns.flatMap cellsN) (hk : n ≤ 4) (hns : ∀ n ∈ ns, n ≤ 18446744073709551615) (hb : Bld b b l u) (hl : l.length ≤ 70368744177664) :
    Calls Try.prog 25 #[.slice (some ⟨u.heap.size, 0, none⟩) n n, .pointer (some ⟨b, 0, none⟩)] (u.alloc (.cells cs 22)) fun e w' => e = .returned (.tuple #[]) ∧ Wrote b b (l ++ ns.flatMap Code.uvar) u w' := by
  subst hn
  have hlt := (bld_lt hb).1
  refine (put_any (g := u.heap.size) ns cs hcs hk hns (heap_alloc_new _ _) (by omega) (hb.below (below_alloc _ _)) (by rw [World.size_alloc]; omega) hl).mono fun e w' ⟨h1, h2⟩ => ⟨h1, Wrote.pre (below_alloc _ _) (by omega) h2⟩
/-- What stands in Encode's rounds: the builder holds l. -/
structure EcI (l : List UInt8) (w1 wr : World) : Prop where
  bel : Below w1.heap.size w1 wr
  bld : Bld w1.heap.size w1.heap.size l wr
theorem EcI.alloc {l : List UInt8} {w1 wr : World} (h : EcI l w1 wr) (o : Obj) : EcI l w1 (wr.alloc o) := ⟨below_of h.bel (below_alloc _ _), h.bld.below (below_alloc _ _)⟩
theorem EcI.wrote {l k : List UInt8} {w1 u u' : World} (h : EcI l w1 u) (g : Wrote w1.heap.size w1.heap.size k u u') : EcI k w1 u' := ⟨h.bel.trans g.bel, g.bld⟩
theorem len_encG (x : Gn) (h : GnIn x) : (encG x).length ≤ 30 := by
  unfold encG
  have h1 := h.1
  have h2 := i64_range h1
  have a := uvar_le x.lev.toNat (by omega)
  have b := uvar_le x.num h.2
  rw [List.length_append]
  omega
theorem len_fld (s : ByteArray) (h : s.size ≤ 520) : (fldB s).length ≤ 530 := by
  unfold fldB
  have a := uvar_le s.size (by omega)
  have b : s.data.toList.length = s.size := by rw [Array.length_toList]; rfl
  rw [List.length_append]
  omega
theorem len_encP (p : Pl) (h : LevP p.lev ∧ MayP p.tb) (hI : PlIn p) : (encP p).length ≤ 2000 := by
  unfold encP
  have a := uvar_le p.lev.toNat (by have := h.1.2; omega)
  have b := uvar_le p.tb.num hI.2.1
  have c := uvar_le p.tb.size.toNat (by have := h.2.2.2.2.1; omega)
  have d := uvar_le p.tb.rows.toNat (by have := h.2.2.2.2.2.2.1; omega)
  have e := len_fld p.tb.fst h.2.2.2.2.2.2.2.2.1
  have f := len_fld p.tb.lst h.2.2.2.2.2.2.2.2.2.2.1
  have g := uvar_le p.tb.least hI.2.2.2.2.1
  have i := uvar_le p.tb.gr hI.2.2.2.2.2.1
  simp only [List.length_append]
  omega
theorem flat_len {α : Type} (f : α → List UInt8) (k : Nat) : ∀ (l : List α), (∀ y ∈ l, (f y).length ≤ k) → (l.flatMap f).length ≤ k * l.length
  | [], _ => by simp
  | y :: r, h => by
    have h1 := h y (List.mem_cons_self ..)
    have h2 := flat_len f k r (fun z hz => h z (List.mem_cons_of_mem _ hz))
    rw [List.flatMap_cons, List.length_append, List.length_cons, Nat.mul_add, Nat.mul_one]
    omega
def encA (e : Ed) : List UInt8 := Code.uvar e.log ++ (Code.uvar e.next ++ (Code.uvar e.seq ++ Code.uvar e.gone.length))
theorem len_encA (e : Ed) (h : EdIn e) (hg : e.gone.length ≤ 256) : (encA e).length ≤ 40 := by
  unfold encA
  have a := uvar_le e.log h.1
  have b := uvar_le e.next h.2.1
  have c := uvar_le e.seq h.2.2.1
  have d := uvar_le e.gone.length (by omega)
  simp only [List.length_append]
  omega
theorem len_B (e : Ed) (h : EdIn e) (hg : e.gone.length ≤ 256) (j : Nat) : (encA e ++ (e.gone.take j).flatMap encG).length ≤ 100000 := by
  have a := len_encA e h hg
  have b := flat_len encG 30 (e.gone.take j) (fun y hy => len_encG y (h.2.2.2.1 y (List.mem_of_mem_take hy)))
  have c : (e.gone.take j).length ≤ 256 := by rw [List.length_take]; omega
  rw [List.length_append]
  omega
theorem len_C (e : Ed) (h : EdIn e) (hL : ListedP e) (hg : e.gone.length ≤ 256) (ha : e.added.length ≤ 256) (j : Nat) : (encA e ++ e.gone.flatMap encG ++ Code.uvar e.added.length ++ (e.added.take j).flatMap encP).length ≤ 1000000 := by
  have a := len_B e h hg e.gone.length
  rw [List.take_length] at a
  have b := uvar_le e.added.length (by omega)
  have d := flat_len encP 2000 (e.added.take j) (fun y hy => len_encP y (hL.2 y (List.mem_of_mem_take hy)) (h.2.2.2.2 y (List.mem_of_mem_take hy)))
  have c : (e.added.take j).length ≤ 256 := by rw [List.length_take]; omega
  rw [List.length_append] at a ⊢
  simp only [List.length_append] at a ⊢
  omega
theorem encA_flat (e : Ed) : [e.log, e.next, e.seq, e.gone.length].flatMap Code.uvar = encA e := by simp [encA]
set_option maxRecDepth 100000 in
set_option maxHeartbeats 16000000 in
theorem encode_main {e : Ed} {hg ha : Hd} {w : World} (h : EdAt e hg ha w) (hI : EdIn e) (hL : ListedP e) (hgl : hg.n ≤ 256) (hal : ha.n ≤ 256) : Calls Try.prog 12 #[edV e hg ha] w fun r w' => r = .returned (.tuple #[.string ⟨(encE e).toArray⟩, .int .i64 0]) ∧ Below w.heap.size w w' := by
  have LC := islisted_any (h.below (below_alloc w (edO e hg ha)))
  rw [tf_true hL] at LC
  replace LC := Lib.hid LC
  obtain ⟨ga, gn, gc, gb, go⟩ := hg
  obtain ⟨aa, an, ac, ab, ao⟩ := ha
  replace hgl : gn ≤ 256 := hgl
  replace hal : an ≤ 256 := hal
  have m1 : gc ≤ 9223372036854775807 := h.gone.sl.most
  have m2 : ac ≤ 9223372036854775807 := h.added.sl.most
  have q1 : gn ≤ gc := h.gone.sl.cap
  have q2 : an ≤ ac := h.added.sl.cap
  have e1 : Hid (e.gone.length = gn) := Lib.hid h.gone.len
  have e2 : Hid (e.added.length = an) := Lib.hid h.added.len
  have E0 := Lib.hid (EdB.new e ⟨ga, gn, gc, gb, go⟩ ⟨aa, an, ac, ab, ao⟩ w)
  have B0 := Lib.hid (below_alloc w (edO e ⟨ga, gn, gc, gb, go⟩ ⟨aa, an, ac, ab, ao⟩))
  have g1 : ¬ (256 : Int) < (gn : Int) := by omega
  have g2 : ¬ (256 : Int) < (an : Int) := by omega
  have w3 := wrU gn (by omega)
  have w4 := wrU an (by omega)
  replace h := Lib.hid h
  replace hI := Lib.hid hI
  replace hL := Lib.hid hL
  obtain ⟨Z, hZ⟩ := named (encE e)
  rw [← hZ.out]
  replace hZ := Lib.hid hZ.out
  go_enter Try.func12, Try.ntmps12
  go_upto_region 5 with (go_at_call 16; ((with_reducible refine LC.out.mono ?_); rintro r w1 ⟨rfl, hb1⟩; have B1 := Lib.hid (below_of B0.out hb1); have E1 := Lib.hid (E0.out.below hb1); clear hb1; obtain ⟨c0, c1, c2, c3, c4⟩ := E1.out.cells))
  have b0 : Hid (EcI [] w1 (w1.alloc (.cells #[.pointer none, .slice none 0 0] 62))) := Lib.hid ⟨below_alloc _ _, bld_new w1⟩
  have P0 := put_at (u := w1.alloc (.cells #[.pointer none, .slice none 0 0] 62)) [e.log, e.next, e.seq, e.gone.length] #[.int .u64 (e.log : Int), .int .u64 (e.next : Int), .int .u64 (e.seq : Int), .int .u64 (gn : Int)] 4 rfl (by rw [e1.out]; rfl) (by omega) (by
    intro n hn
    have := hI.out
    simp only [List.mem_cons, List.not_mem_nil, or_false] at hn
    rcases hn with rfl | rfl | rfl | rfl
    · exact this.1
    · exact this.2.1
    · exact this.2.2.1
    · rw [e1.out]; omega) b0.out.bld (by simp)
  rw [World.size_alloc, encA_flat, List.nil_append] at P0
  replace P0 := Lib.hid P0
  have EE : Hid (∀ u, Below w1.heap.size w1 u → EdB w.heap.size e ⟨ga, gn, gc, gb, go⟩ ⟨aa, an, ac, ab, ao⟩ u ∧ EdAt e ⟨ga, gn, gc, gb, go⟩ ⟨aa, an, ac, ab, ao⟩ u) := Lib.hid (fun u hu => ⟨E1.out.below hu, (h.out.below B1.out).below hu⟩)
  obtain ⟨k0, k1, k2, k3, k4⟩ := (EE.out _ b0.out.bel).1.cells
  go_wp2_with (go_at_call 25; ((with_reducible refine P0.out.mono ?_); rintro r w2 ⟨rfl, hw2⟩; have I2 := Lib.hid (b0.out.wrote hw2); clear hw2; obtain ⟨d0, d1, d2, d3, d4⟩ := (EE.out _ I2.out.bel).1.cells))
  clear P0 LC b0
  replace E0 := Lib.hid trivial
  go_loopw [41] (fun i wr => ∃ j : Nat, j ≤ gn ∧ i = .int .i64 (j : Int) ∧ Hid (EcI (encA e ++ (e.gone.take j).flatMap encG) w1 wr)) (fun i _ => gn - (intOf i).toNat)
  case atStart => exact ⟨0, Nat.zero_le _, rfl, by simpa using I2⟩
  case round =>
    obtain ⟨j, hj, rfl, hc⟩ := hrel
    by_cases hlt : j < gn
    · obtain ⟨x, hx, rfl, hbl, x0, x1⟩ := (EE.out _ hc.out.bel).2.gone.at2x hlt
      obtain ⟨k0, k1, k2, k3, k4⟩ := (EE.out _ hc.out.bel).1.cells
      have hxl := hL.out.1 x (List.mem_of_getElem? hx)
      have hxi := hI.out.2.2.2.1 x (List.mem_of_getElem? hx)
      have hnx : Hid (encA e ++ (e.gone.take j).flatMap encG ++ encG x = encA e ++ (e.gone.take (j + 1)).flatMap encG) := Lib.hid (by rw [List.take_add_one, hx]; simp)
      have hln := len_B e hI.out (by rw [e1.out]; exact hgl) j
      obtain ⟨xl, xn⟩ := x
      obtain ⟨lv, rfl⟩ : ∃ lv : Nat, xl = (lv : Int) := ⟨xl.toNat, by have := hxl.1; simp only at this; omega⟩
      have hlv : lv < 4 := by have := hxl.2; simp only at this; omega
      have w5 := wrU lv (by omega)
      have J1 := Lib.hid (hc.out.alloc (gnO ⟨(lv : Int), xn⟩))
      have P1 := put_at (u := wr.alloc (gnO ⟨(lv : Int), xn⟩)) [lv, xn] #[.int .u64 (lv : Int), .int .u64 (xn : Int)] 2 rfl rfl (by omega) (by
        intro n hn
        simp only [List.mem_cons, List.not_mem_nil, or_false] at hn
        rcases hn with rfl | rfl
        · omega
        · exact hxi.2) J1.out.bld (by omega)
      rw [World.size_alloc, show [lv, xn].flatMap Code.uvar = encG ⟨(lv : Int), xn⟩ by simp [encG], hnx.out] at P1
      replace P1 := Lib.hid P1
      have i0 : (j : Int) < (gn : Int) := by omega
      clear hx hxl hxi hln hnx
      simp only at x0 x1
      go_wp2_with (go_at_call 25; ((with_reducible refine P1.out.mono ?_); rintro r w7 ⟨rfl, hw7⟩; have I7 := Lib.hid (J1.out.wrote hw7); clear hw7))
      go_roundw
      case rel => exact ⟨j + 1, by omega, by go_num, I7⟩
      case measure => simp [intOf]; omega
    · have i0 : ¬ (j : Int) < (gn : Int) := by omega
      have et : Hid (e.gone.take j = e.gone) := Lib.hid (List.take_of_length_le (by rw [e1.out]; omega))
      rw [et.out] at hc
      obtain ⟨k0, k1, k2, k3, k4⟩ := (EE.out _ hc.out.bel).1.cells
      have hln := len_B e hI.out (by rw [e1.out]; exact hgl) e.gone.length
      rw [List.take_length] at hln
      have P2 := put_at (u := wr) [an] #[.int .u64 (an : Int)] 1 rfl rfl (by omega) (by
        intro n hn
        simp only [List.mem_cons, List.not_mem_nil, or_false] at hn
        omega) hc.out.bld (by omega)
      rw [show [an].flatMap Code.uvar = Code.uvar e.added.length by rw [e2.out]; simp] at P2
      replace P2 := Lib.hid P2
      clear hln
      go_wp2_with (go_at_call 25; ((with_reducible refine P2.out.mono ?_); rintro r w8 ⟨rfl, hw8⟩; have I8 := Lib.hid (hc.out.wrote hw8); clear hw8; obtain ⟨f0, f1, f2, f3, f4⟩ := (EE.out _ I8.out.bel).1.cells))
      clear P2 hc k0 k1 k2 k3 k4
      go_loopw [64] (fun i wr => ∃ j : Nat, j ≤ an ∧ i = .int .i64 (j : Int) ∧ Hid (EcI (encA e ++ e.gone.flatMap encG ++ Code.uvar e.added.length ++ (e.added.take j).flatMap encP) w1 wr)) (fun i _ => an - (intOf i).toNat)
      case atStart => exact ⟨0, Nat.zero_le _, rfl, by simpa using I8⟩
      case round =>
        obtain ⟨k, hk, rfl, hd⟩ := hrel
        by_cases hlt2 : k < an
        · obtain ⟨x, hx, rfl, hbl, x0, x1, x2, x3, x4, x5, x6, x7⟩ := (EE.out _ hd.out.bel).2.added.at8x hlt2
          have hxl := hL.out.2 x (List.mem_of_getElem? hx)
          have hxi := hI.out.2.2.2.2 x (List.mem_of_getElem? hx)
          have hnx : Hid (encA e ++ e.gone.flatMap encG ++ Code.uvar e.added.length ++ (e.added.take k).flatMap encP ++ encP x = encA e ++ e.gone.flatMap encG ++ Code.uvar e.added.length ++ (e.added.take (k + 1)).flatMap encP) := Lib.hid (by rw [List.take_add_one, hx]; simp)
          have hln := Lib.hid (len_C e hI.out hL.out (by rw [e1.out]; exact hgl) (by rw [e2.out]; exact hal) k)
          have j0 : (k : Int) < (an : Int) := by omega
          replace hx := Lib.hid hx
          obtain ⟨xl, xn, xsz, xrw, xf, xla, xle, xg⟩ := x
          obtain ⟨lv, rfl⟩ : ∃ lv : Nat, xl = (lv : Int) := ⟨xl.toNat, by have := hxl.1.1; simp only at this; omega⟩
          obtain ⟨sz, rfl⟩ : ∃ sz : Nat, xsz = (sz : Int) := ⟨xsz.toNat, by have := hxl.2.2.2.1; simp only at this; omega⟩
          obtain ⟨rw', rfl⟩ : ∃ r : Nat, xrw = (r : Int) := ⟨xrw.toNat, by have := hxl.2.2.2.2.2.1; simp only at this; omega⟩
          have hlv : lv < 4 := by have := hxl.1.2; simp only at this; omega
          have hsz : sz ≤ 262144 := by have := hxl.2.2.2.2.1; simp only at this; omega
          have hrw : rw' ≤ 262144 := by have := hxl.2.2.2.2.2.2.1; simp only at this; omega
          have hfs : xf.size ≤ 520 := hxl.2.2.2.2.2.2.2.2.1
          have hls : xla.size ≤ 520 := hxl.2.2.2.2.2.2.2.2.2.2.1
          have hn1 : xn ≤ 18446744073709551615 := hxi.2.1
          have hn2 : xle ≤ 18446744073709551615 := hxi.2.2.2.2.1
          have hn3 : xg ≤ 18446744073709551615 := hxi.2.2.2.2.2.1
          clear hxl hxi
          simp only at x0 x1 x2 x3 x4 x5 x6 x7
          have w5 := wrU lv (by omega)
          have w6 := wrU sz (by omega)
          have w7 := wrU rw' (by omega)
          obtain ⟨Lb, hLb⟩ := named (encA e ++ e.gone.flatMap encG ++ Code.uvar e.added.length ++ (e.added.take k).flatMap encP)
          rw [← hLb.out] at hd hnx hln
          replace hLb := Lib.hid trivial
          have J1 := Lib.hid ((hd.out.alloc (plO ⟨(lv : Int), ⟨xn, (sz : Int), (rw' : Int), xf, xla, xle, xg⟩⟩)).alloc (mtO ⟨xn, (sz : Int), (rw' : Int), xf, xla, xle, xg⟩))
          have P1 := put_at (u := (wr.alloc (plO ⟨(lv : Int), ⟨xn, (sz : Int), (rw' : Int), xf, xla, xle, xg⟩⟩)).alloc (mtO ⟨xn, (sz : Int), (rw' : Int), xf, xla, xle, xg⟩)) [lv, xn, sz, rw'] #[.int .u64 (lv : Int), .int .u64 (xn : Int), .int .u64 (sz : Int), .int .u64 (rw' : Int)] 4 rfl rfl (by omega) (by
            intro n hn
            simp only [List.mem_cons, List.not_mem_nil, or_false] at hn
            rcases hn with rfl | rfl | rfl | rfl
            · omega
            · exact hn1
            · omega
            · omega) J1.out.bld (by have := hln.out; omega)
          rw [World.size_alloc, World.size_alloc] at P1
          obtain ⟨U1, hU1⟩ := named ([lv, xn, sz, rw'].flatMap Code.uvar)
          rw [← hU1.out] at P1
          replace P1 := Lib.hid P1
          have lU1 : Hid (U1.length ≤ 40) := Lib.hid (by
            rw [hU1.out]
            have := flat_le Code.uvar [lv, xn, sz, rw'] (by
              intro n hn
              simp only [List.mem_cons, List.not_mem_nil, or_false] at hn
              rcases hn with rfl | rfl | rfl | rfl
              · exact uvar_le _ (by omega)
              · exact uvar_le _ hn1
              · exact uvar_le _ (by omega)
              · exact uvar_le _ (by omega))
            simpa using this)
          -- the box of the table, kept by what writes to the builder
          have MB : Hid (((wr.alloc (plO ⟨(lv : Int), ⟨xn, (sz : Int), (rw' : Int), xf, xla, xle, xg⟩⟩)).alloc (mtO ⟨xn, (sz : Int), (rw' : Int), xf, xla, xle, xg⟩)).heap[wr.heap.size + 1]? = some (mtO ⟨xn, (sz : Int), (rw' : Int), xf, xla, xle, xg⟩)) := Lib.hid (by
            have := heap_alloc_new (wr.alloc (plO ⟨(lv : Int), ⟨xn, (sz : Int), (rw' : Int), xf, xla, xle, xg⟩⟩)) (mtO ⟨xn, (sz : Int), (rw' : Int), xf, xla, xle, xg⟩)
            rw [World.size_alloc] at this
            exact this)
          have hne : Hid (wr.heap.size + 1 ≠ w1.heap.size) := Lib.hid (by have := hd.out.bel.size; omega)
          have KM : Hid (∀ u u' : World, u.heap[wr.heap.size + 1]? = some (mtO ⟨xn, (sz : Int), (rw' : Int), xf, xla, xle, xg⟩) → Spares w1.heap.size u u' → u'.heap[wr.heap.size + 1]? = some (mtO ⟨xn, (sz : Int), (rw' : Int), xf, xla, xle, xg⟩)) := Lib.hid (fun u u' h1 h2 => spares_cells h2 h1 hne.out (by decide))
          have CM : Hid (∀ u : World, u.heap[wr.heap.size + 1]? = some (mtO ⟨xn, (sz : Int), (rw' : Int), xf, xla, xle, xg⟩) → u.cell? ⟨wr.heap.size + 1, 0, none⟩ = some (.int .u64 (xn : Int)) ∧ u.cell? ⟨wr.heap.size + 1, 3, none⟩ = some (.string xf) ∧ u.cell? ⟨wr.heap.size + 1, 4, none⟩ = some (.string xla) ∧ u.cell? ⟨wr.heap.size + 1, 5, none⟩ = some (.int .u64 (xle : Int)) ∧ u.cell? ⟨wr.heap.size + 1, 6, none⟩ = some (.int .u64 (xg : Int))) := Lib.hid (fun u hu => by simp [World.cell?, hu])
          have F1 := Lib.hid (fun u => putfield_any xf (by unfold reachBytes; omega) u)
          have F2 := Lib.hid (fun u => putfield_any xla (by unfold reachBytes; omega) u)
          obtain ⟨V1, hV1⟩ := named (Code.uvar xf.size ++ xf.data.toList)
          obtain ⟨V2, hV2⟩ := named (Code.uvar xla.size ++ xla.data.toList)
          rw [← hV1.out] at F1
          rw [← hV2.out] at F2
          have lV1 : Hid (V1.length ≤ 530) := Lib.hid (by rw [hV1.out]; exact len_fld xf hfs)
          have lV2 : Hid (V2.length ≤ 530) := Lib.hid (by rw [hV2.out]; exact len_fld xla hls)
          have zV : Hid (∀ V : List UInt8, (⟨V.toArray⟩ : ByteArray).size = V.length ∧ (⟨V.toArray⟩ : ByteArray).data.toList = V) := Lib.hid (fun V => ⟨by simp [ByteArray.size], by simp⟩)
          have S1 : Hid (∀ u, EcI (Lb ++ U1) w1 u → Calls Try.prog 26 #[.pointer (some ⟨w1.heap.size, 0, none⟩), .string ⟨V1.toArray⟩] u fun r w' => r = .returned (.tuple #[.int .i64 (⟨V1.toArray⟩ : ByteArray).size, .nilIface]) ∧ Wrote w1.heap.size w1.heap.size (Lb ++ U1 ++ V1) u w') := Lib.hid (fun u hu => (bld_string hu.bld hu.bel.size ⟨V1.toArray⟩ (by rw [(zV.out V1).1, List.length_append]; have := hln.out; have := lU1.out; have := lV1.out; omega)).mono fun r w' ⟨a1, a2, a3, a4⟩ => ⟨a1, by rw [(zV.out V1).2] at a2; exact a2, a3, a4⟩)
          have S2 : Hid (∀ u, EcI (Lb ++ U1 ++ V1) w1 u → Calls Try.prog 26 #[.pointer (some ⟨w1.heap.size, 0, none⟩), .string ⟨V2.toArray⟩] u fun r w' => r = .returned (.tuple #[.int .i64 (⟨V2.toArray⟩ : ByteArray).size, .nilIface]) ∧ Wrote w1.heap.size w1.heap.size (Lb ++ U1 ++ V1 ++ V2) u w') := Lib.hid (fun u hu => (bld_string hu.bld hu.bel.size ⟨V2.toArray⟩ (by rw [(zV.out V2).1, List.length_append, List.length_append]; have := hln.out; have := lU1.out; have := lV1.out; have := lV2.out; omega)).mono fun r w' ⟨a1, a2, a3, a4⟩ => ⟨a1, by rw [(zV.out V2).2] at a2; exact a2, a3, a4⟩)
          have P3 : Hid (∀ u, EcI (Lb ++ U1 ++ V1 ++ V2) w1 u → Calls Try.prog 25 #[.slice (some ⟨u.heap.size, 0, none⟩) 2 2, .pointer (some ⟨w1.heap.size, 0, none⟩)] (u.alloc (.cells #[.int .u64 (xle : Int), .int .u64 (xg : Int)] 22)) fun r w' => r = .returned (.tuple #[]) ∧ Wrote w1.heap.size w1.heap.size (Lb ++ U1 ++ V1 ++ V2 ++ [xle, xg].flatMap Code.uvar) u w') := Lib.hid (fun u hu => put_at [xle, xg] #[.int .u64 (xle : Int), .int .u64 (xg : Int)] 2 rfl rfl (by omega) (by
            intro n hn
            simp only [List.mem_cons, List.not_mem_nil, or_false] at hn
            rcases hn with rfl | rfl
            · exact hn2
            · exact hn3) hu.bld (by rw [List.length_append, List.length_append, List.length_append]; have := hln.out; have := lU1.out; have := lV1.out; have := lV2.out; omega))
          have hend : Hid (Lb ++ U1 ++ V1 ++ V2 ++ [xle, xg].flatMap Code.uvar = encA e ++ e.gone.flatMap encG ++ Code.uvar e.added.length ++ (e.added.take (k + 1)).flatMap encP) := Lib.hid (by
            rw [← hnx.out, hU1.out, hV1.out, hV2.out]
            simp [encP, fldB])
          clear hn1 hn2 hn3 hfs hls hsz hrw hlv
          replace hU1 := Lib.hid trivial
          replace hV1 := Lib.hid trivial
          replace hV2 := Lib.hid trivial
          go_wp2_with (first
            | (go_at_call 25; ((with_reducible refine P1.out.mono ?_); rintro r w2' ⟨rfl, hw2⟩; have I3 := Lib.hid (J1.out.wrote hw2); have M3 := Lib.hid (KM.out _ _ MB.out hw2.sp); obtain ⟨r0, r3, r4, r5, r6⟩ := CM.out _ M3.out; clear hw2))
            | (go_at_call 28; ((with_reducible refine (F1.out _).mono ?_); rintro r w4' ⟨rfl, hb4⟩; have I4 : Hid (EcI (Lb ++ U1) w1 w4') := Lib.hid ⟨below_of I3.out.bel hb4, I3.out.bld.below hb4⟩; have M4 := Lib.hid (KM.out _ _ M3.out (Spares.below hb4)); clear hb4))
            | (go_at_call 26; ((with_reducible refine (S1.out _ I4.out).mono ?_); rintro r w5' ⟨rfl, hw5⟩; have I5 := Lib.hid (I4.out.wrote hw5); have M5 := Lib.hid (KM.out _ _ M4.out hw5.sp); obtain ⟨s0, s3, s4, s5, s6⟩ := CM.out _ M5.out; clear hw5))
            | (go_at_call 28; ((with_reducible refine (F2.out _).mono ?_); rintro r w6' ⟨rfl, hb6⟩; have I6 : Hid (EcI (Lb ++ U1 ++ V1) w1 w6') := Lib.hid ⟨below_of I5.out.bel hb6, I5.out.bld.below hb6⟩; have M6 := Lib.hid (KM.out _ _ M5.out (Spares.below hb6)); clear hb6))
            | (go_at_call 26; ((with_reducible refine (S2.out _ I6.out).mono ?_); rintro r w7' ⟨rfl, hw7⟩; have I7 := Lib.hid (I6.out.wrote hw7); have M7 := Lib.hid (KM.out _ _ M6.out hw7.sp); obtain ⟨t0, t3, t4, t5, t6⟩ := CM.out _ M7.out; clear hw7))
            | (go_at_call 25; ((with_reducible refine (P3.out _ I7.out).mono ?_); rintro r w9' ⟨rfl, hw9⟩; have I9 := Lib.hid (I7.out.wrote hw9); rw [hend.out] at I9; clear hw9)))
          go_roundw
          case rel => exact ⟨k + 1, by omega, by go_num, I9⟩
          case measure => simp [intOf]; omega
        · have j0 : ¬ (k : Int) < (an : Int) := by omega
          have et2 : Hid (e.added.take k = e.added) := Lib.hid (List.take_of_length_le (by rw [e2.out]; omega))
          have hfin : Hid (encA e ++ e.gone.flatMap encG ++ Code.uvar e.added.length ++ (e.added.take k).flatMap encP = Z) := Lib.hid (by rw [et2.out, hZ.out]; unfold encE encA; rfl)
          rw [hfin.out] at hd
          have TC := Lib.hid (bld_text hd.out.bld hd.out.bel.size)
          go_wp2_with (go_at_call 29; ((with_reducible refine TC.out.mono ?_); rintro r w9 ⟨rfl, hb9⟩; have B9 := Lib.hid (below_of B1.out (hd.out.bel.trans hb9)); clear hb9))
          go_returns
          exact ⟨rfl, B9.out⟩
end Go.Proofs.Ytnmjfdejgfmoiaa
/-
  The law's own answers that the document fixes: true. No condition.
-/
namespace Go.Proofs.Ytnmjfdejgfmoiaa
set_option maxRecDepth 100000
open Go Go.RowKit
theorem right_nil (a b c : Nat) (ha : NumP a) (hb : NumP b) (hc : c < 72057594037927936) : RightP ⟨a, b, c, fun _ => []⟩ :=
  ⟨⟨ha, hb, hc⟩, fun i _ => ⟨Nat.zero_le _, (fun x hx => nomatch hx), (fun x hx => nomatch hx), ⟨List.nodup_nil, (fun x hx => nomatch hx)⟩, (fun i x y hx => nomatch hx)⟩⟩
abbrev firstL : Value := .agg #[.int .u64 1, .int .u64 1, .int .u64 0, .slice none 0 0, .slice none 0 0, .slice none 0 0, .slice none 0 0]
theorem firstL_any (w : World) : Calls Try.prog 13 #[] w fun r w' => r = .returned firstL ∧ Below w.heap.size w w' := first_any w
def nilHd : Hd := ⟨none, 0, 0, 0, 0⟩
/-- Apply at the first version, where nothing is added. -/
theorem apply_first {e : Ed} {hg : Hd} {w : World} (hE : EdAt e hg nilHd w) (hI : EdIn e) (hn : hg.n ≤ 1000) (h1 : ¬ BelP e.log 1) (h2 : ¬ BelP e.next 1) (hL : ListedP e) :
    Calls Try.prog 8 #[verV firstV noHd, edV e hg nilHd] w fun r w' => ApplyD firstV e (decide (hg.n = 0)) true (fun _ => []) w r w' := by
  refine apply_in (first_at w) (fun i hi x hx => by cases hx) hE (right_nil 1 1 0 ⟨by omega, by omega⟩ ⟨by omega, by omega⟩ (by omega)) h1 h2 (fun h => absurd h.2 (Nat.not_lt_zero _)) hL (decide (hg.n = 0)) true (fun G => G = noHd) (LvAtG (fun _ => [])) (fun G x y h hb => LvAtG.below h hb) (fun _ => []) (fun i hi x hx => by cases hx) ?_ ?_
  · intro u hu hb
    refine (without_nil (hE.gone.below hb) (fun g hg => hI.2.2.2.1 g hg) hn).mono fun r u' ⟨h3, h4⟩ => ⟨noHd, h3, rfl, fun i hi => Ms.nil u', h4, fun i hi h0 => absurd h0 (Nat.lt_irrefl 0)⟩
  · intro u q G hb hq hQ hG hL1 hGb
    subst hG
    refine (insert_nil hQ).mono fun r u' ⟨h3, h4⟩ => ⟨h3, (h4.mono (by have := (Array.getElem?_eq_some_iff.1 hQ).1; omega)), fun _ => ⟨noHd, (h4.block q (Array.getElem?_eq_some_iff.1 hQ).1).trans hQ, fun i hi => Ms.nil u', fun i hi j hj => absurd hj (by show ¬ j < 0 * 7; omega)⟩⟩
def ae1 : Ed := ⟨0, 3, 0, [⟨1, 2⟩], []⟩
def ae2 : Ed := ⟨0, 0, 0, [⟨0, 1⟩], []⟩
def ae3 : Ed := ⟨0, 0, 5, [], []⟩
theorem enc_ae1 : encE ae1 = [0, 3, 0, 1, 1, 2, 0] := by
  have u : ∀ n, n < 128 → Code.uvar n = [UInt8.ofNat n] := fun n h => Code.uvar_small h
  simp [encE, ae1, encG, u 0 (by decide), u 1 (by decide), u 2 (by decide), u 3 (by decide)]
theorem gn_in (l : Int) (n : Nat) (h : 0 ≤ l ∧ l < 4) (hn : n ≤ 100) : GnIn ⟨l, n⟩ := ⟨by simp [Lit.wf, IntKind.min, IntKind.max, IntKind.signed, IntKind.bits]; omega, by show n ≤ _; omega⟩
theorem one_gs (x : Gn) (w : World) : Gs ⟨some ⟨w.heap.size, 0, none⟩, 1, 1, w.heap.size, 0⟩ [x] (w.alloc (gnO x)) := by
  refine ⟨⟨rfl, Nat.le_refl _, by show (1 : Nat) ≤ _; omega, fun _ => ⟨rfl, by simp⟩, fun j y hy m u hu => ?_⟩, fun h => by cases h⟩
  have hj : j = 0 := by have := (List.getElem?_eq_some_iff.1 hy).1; simp at this; exact this
  subst hj
  simp at hy
  subst hy
  rw [World.cell?_alloc_new, ← Array.getElem?_toList]
  simpa [cellsG] using hu
theorem enc_fixed (w : World) : Calls Try.prog 12 #[.agg #[.int .u64 0, .int .u64 3, .int .u64 0, .slice (some ⟨w.heap.size, 0, none⟩) 1 1, .slice none 0 0]] (w.alloc (.cells #[.int .i64 1, .int .u64 2] 45)) fun r w' => r = .returned (.tuple #[.string ⟨#[0, 3, 0, 1, 1, 2, 0]⟩, .int .i64 0]) ∧ Below w.heap.size w w' := by
  have h := encode_main (e := ae1) (hg := ⟨some ⟨w.heap.size, 0, none⟩, 1, 1, w.heap.size, 0⟩) (ha := nilHd) (w := w.alloc (gnO ⟨1, 2⟩)) ⟨one_gs _ _, Ps.nil _⟩ ⟨by decide, by decide, by decide, (fun x hx => by simp [ae1] at hx; subst hx; exact gn_in 1 2 (by omega) (by omega)), (fun x hx => nomatch hx)⟩ ⟨(fun x hx => by simp [ae1] at hx; subst hx; exact ⟨by decide, by decide⟩), (fun x hx => nomatch hx)⟩ (show (1 : Nat) ≤ 256 by omega) (show (0 : Nat) ≤ 256 by omega)
  rw [enc_ae1] at h
  exact h.mono fun r w' ⟨h1, h2⟩ => ⟨h1, below_of (below_alloc w _) h2⟩
theorem app_fixed2 (w : World) : Calls Try.prog 8 #[firstL, .agg #[.int .u64 0, .int .u64 0, .int .u64 0, .slice (some ⟨w.heap.size, 0, none⟩) 1 1, .slice none 0 0]] (w.alloc (.cells #[.int .i64 0, .int .u64 1] 45)) fun r w' => r = .returned (.tuple #[zV, .int .i64 4]) ∧ Below w.heap.size w w' := by
  have h := apply_first (e := ae2) (hg := ⟨some ⟨w.heap.size, 0, none⟩, 1, 1, w.heap.size, 0⟩) (w := w.alloc (gnO ⟨0, 1⟩)) ⟨one_gs _ _, Ps.nil _⟩ ⟨by decide, by decide, by decide, (fun x hx => by simp [ae2] at hx; subst hx; exact gn_in 0 1 (by omega) (by omega)), (fun x hx => nomatch hx)⟩ (show (1 : Nat) ≤ 1000 by omega) (fun h => h.1 rfl) (fun h => h.1 rfl) ⟨(fun x hx => by simp [ae2] at hx; subst hx; exact ⟨by decide, by decide⟩), (fun x hx => nomatch hx)⟩
  refine h.mono fun r w' ⟨h1, h2⟩ => ⟨?_, below_of (below_alloc w _) h1⟩
  rcases h2 with ⟨_, h3⟩ | ⟨h3, _⟩ | ⟨h3, _⟩ | ⟨h3, _⟩
  · exact h3
  · cases h3
  · cases h3
  · cases h3
theorem app_fixed3 (w : World) : Calls Try.prog 8 #[firstL, .agg #[.int .u64 0, .int .u64 0, .int .u64 5, .slice none 0 0, .slice none 0 0]] w fun r w' => (∃ H : Nat → Hd, r = .returned (.tuple #[.agg #[.int .u64 1, .int .u64 1, .int .u64 5, .slice (H 0).a (H 0).n (H 0).c, .slice (H 1).a (H 1).n (H 1).c, .slice (H 2).a (H 2).n (H 2).c, .slice (H 3).a (H 3).n (H 3).c], .int .i64 0])) ∧ Below w.heap.size w w' := by
  have h := apply_first (e := ae3) (hg := nilHd) (w := w) ⟨Gs.nil _, Ps.nil _⟩ ⟨by decide, by decide, by decide, (fun x hx => nomatch hx), (fun x hx => nomatch hx)⟩ (show (0 : Nat) ≤ 1000 by omega) (fun h => h.1 rfl) (fun h => h.1 rfl) ⟨(fun x hx => nomatch hx), (fun x hx => nomatch hx)⟩
  refine h.mono fun r w' ⟨h1, h2⟩ => ⟨?_, h1⟩
  rcases h2 with ⟨h3, _⟩ | ⟨_, h3, _⟩ | ⟨_, _, _, G, h3, _⟩ | ⟨_, _, h3, _⟩
  · cases h3
  · cases h3
  · exact ⟨G, h3⟩
  · exact absurd (right_nil 1 1 5 ⟨by omega, by omega⟩ ⟨by omega, by omega⟩ (by omega)) h3
set_option maxRecDepth 100000 in
set_option maxHeartbeats 8000000 in
theorem eawake_any (w : World) : Calls Try.prog 6 #[] w fun e w' => e = .returned (.bool true) ∧ Below w.heap.size w w' := by
  have EC := Lib.hid (fun u => enc_fixed u)
  have FC := Lib.hid (fun u => firstL_any u)
  have A2 := Lib.hid (fun u => app_fixed2 u)
  have A3 := Lib.hid (fun u => app_fixed3 u)
  go_enter Try.func6, Try.ntmps6
  go_wp2_with (first
    | (go_at_call 12; ((with_reducible refine (EC.out _).mono ?_); rintro r w1 ⟨rfl, hb1⟩; have B1 := Lib.hid hb1; clear hb1))
    | (go_at_call 13; ((with_reducible refine (FC.out _).mono ?_); rintro r w2 ⟨rfl, hb2⟩; have B2 : Hid (Below w.heap.size w w2) := (by first | exact Lib.hid (below_of (w := w) B3.out hb2) | exact Lib.hid (below_of (w := w) (B3.out.alloc B3.out.size _) hb2) | exact Lib.hid (below_of (w := w) B1.out hb2)); clear hb2))
    | (go_at_call 8; ((with_reducible refine (A2.out _).mono ?_); rintro r w3 ⟨rfl, hb3⟩; have B3 := Lib.hid (below_of (w := w) B2.out hb3); clear hb3))
    | (go_at_call 8; ((with_reducible refine (A3.out _).mono ?_); rintro r w4 ⟨⟨H, rfl⟩, hb4⟩; have B4 := Lib.hid (below_of (w := w) B2.out hb4); have B5 := Lib.hid (B4.out.alloc B4.out.size (verO ⟨1, 1, 5, fun _ => []⟩ H)); clear hb4)))
  go_returns
  exact ⟨rfl, B5.out⟩
end Go.Proofs.Ytnmjfdejgfmoiaa
/-
  The contract of the program's Apply, in general, and the mathematics of EditMakes. Condition: at most 300 in each list of the edit.
-/
namespace Go.Proofs.Ytnmjfdejgfmoiaa
set_option maxRecDepth 100000
open Go Go.RowKit
theorem z_at {w : World} {v : Vr} {H : Nat → Hd} {e : Ed} {hg ha : Hd} : VerB w.heap.size v H (((w.alloc (verO v H)).alloc (edO e hg ha)).alloc (zO)) ∧ EdB (w.heap.size + 1) e hg ha (((w.alloc (verO v H)).alloc (edO e hg ha)).alloc (zO)) ∧ VerB (w.heap.size + 1 + 1) zeroV noHd (((w.alloc (verO v H)).alloc (edO e hg ha)).alloc (zO)) ∧ Below w.heap.size w (((w.alloc (verO v H)).alloc (edO e hg ha)).alloc (zO)) := by
  have z1 : (w.alloc (verO v H)).heap.size = w.heap.size + 1 := World.size_alloc _ _
  have z2 : ((w.alloc (verO v H)).alloc (edO e hg ha)).heap.size = w.heap.size + 1 + 1 := by rw [World.size_alloc, z1]
  refine ⟨((VerB.new v H w).below (below_alloc _ _)).below (below_alloc _ _), ?_, ?_, ((below_alloc w _).alloc (by simp) _).alloc (by simp; omega) _⟩
  · have := EdB.new e hg ha (w.alloc (verO v H))
    rw [z1] at this
    exact this.below (below_alloc _ _)
  · have : VerB ((w.alloc (verO v H)).alloc (edO e hg ha)).heap.size zeroV noHd (((w.alloc (verO v H)).alloc (edO e hg ha)).alloc (zO)) := VerB.new zeroV noHd ((w.alloc (verO v H)).alloc (edO e hg ha))
    rwa [z2] at this
set_option maxRecDepth 100000 in
set_option maxHeartbeats 16000000 in
theorem apply_arg0 {v : Vr} {H : Nat → Hd} {e : Ed} {hg ha : Hd} {w : World} (hM : VrAt v H w) (hN : NumsIn v) (hE : EdAt e hg ha w) (hR : ¬ RightP v) : Calls Try.prog 8 #[verV v H, edV e hg ha] w fun r w' => r = .returned (.tuple #[zV, .int .i64 2]) ∧ Below w.heap.size w w' := by
  obtain ⟨V0, E0, Z0, B0⟩ := z_at (w := w) (v := v) (H := H) (e := e) (hg := hg) (ha := ha)
  have RC := Lib.hid (fun u (hu : Below w.heap.size w u) => right_any (hM.below hu) hN)
  rw [tf_false hR] at RC
  have KP := Lib.hid (fun u (hu : Below (((w.alloc (verO v H)).alloc (edO e hg ha)).alloc (zO)).heap.size (((w.alloc (verO v H)).alloc (edO e hg ha)).alloc (zO)) u) => (⟨V0.below hu, E0.below hu, Z0.below hu, below_of B0 hu⟩ : VerB w.heap.size v H u ∧ EdB (w.heap.size + 1) e hg ha u ∧ VerB (w.heap.size + 1 + 1) zeroV noHd u ∧ Below w.heap.size w u))
  obtain ⟨v0, v1, v2, v3, v4, v5, v6⟩ := V0.cells
  obtain ⟨e0, e1, e2, e3, e4⟩ := E0.cells
  obtain ⟨y0, y1, y2, y3, y4, y5, y6⟩ := Z0.cells
  have fz := Z0.frozen
  have B00 := Lib.hid B0
  clear hM hN hE hR V0 E0 Z0 B0
  go_enter Try.func8, Try.ntmps8
  go_wp2_with (first
    | (go_at_call 14; ((with_reducible refine (RC.out _ B00.out).mono ?_); rintro r w1 ⟨rfl, hb1⟩; have K1 := Lib.hid (KP.out _ hb1); have L1 := Lib.hid hb1; clear hb1; obtain ⟨v0, v1, v2, v3, v4, v5, v6⟩ := K1.out.1.cells; obtain ⟨e0, e1, e2, e3, e4⟩ := K1.out.2.1.cells; obtain ⟨y0, y1, y2, y3, y4, y5, y6⟩ := K1.out.2.2.1.cells; have fz := K1.out.2.2.1.frozen)))
  obtain ⟨g0, g1, g2, g3, g4, g5, g6⟩ := zput_cells K1.out.2.2.1
  exact bodyPost_ret (v := .tuple #[zV, .int .i64 2]) (by simp [results, Try.results8, go_sem, g0, g1, g2, g3, g4, g5, g6]) rfl ⟨rfl, below_zPut (p := w.heap.size + 1 + 1) K1.out.2.2.2 (by omega)⟩
set_option maxRecDepth 100000 in
set_option maxHeartbeats 16000000 in
theorem apply_arg1 {v : Vr} {H : Nat → Hd} {e : Ed} {hg ha : Hd} {w : World} (hM : VrAt v H w) (hN : NumsIn v) (hE : EdAt e hg ha w) (hR : RightP v) (h1 : BelP e.log v.log) : Calls Try.prog 8 #[verV v H, edV e hg ha] w fun r w' => r = .returned (.tuple #[zV, .int .i64 2]) ∧ Below w.heap.size w w' := by
  obtain ⟨V0, E0, Z0, B0⟩ := z_at (w := w) (v := v) (H := H) (e := e) (hg := hg) (ha := ha)
  have RC := Lib.hid (fun u (hu : Below w.heap.size w u) => right_any (hM.below hu) hN)
  rw [tf_true hR] at RC
  have C1 := Lib.hid (fun u => isbel_any e.log v.log u)
  rw [decide_eq_true h1] at C1
  have KP := Lib.hid (fun u (hu : Below (((w.alloc (verO v H)).alloc (edO e hg ha)).alloc (zO)).heap.size (((w.alloc (verO v H)).alloc (edO e hg ha)).alloc (zO)) u) => (⟨V0.below hu, E0.below hu, Z0.below hu, below_of B0 hu⟩ : VerB w.heap.size v H u ∧ EdB (w.heap.size + 1) e hg ha u ∧ VerB (w.heap.size + 1 + 1) zeroV noHd u ∧ Below w.heap.size w u))
  obtain ⟨v0, v1, v2, v3, v4, v5, v6⟩ := V0.cells
  obtain ⟨e0, e1, e2, e3, e4⟩ := E0.cells
  obtain ⟨y0, y1, y2, y3, y4, y5, y6⟩ := Z0.cells
  have fz := Z0.frozen
  have B00 := Lib.hid B0
  clear hM hN hE hR h1 V0 E0 Z0 B0
  go_enter Try.func8, Try.ntmps8
  go_wp2_with (first
    | (go_at_call 14; ((with_reducible refine (RC.out _ B00.out).mono ?_); rintro r w1 ⟨rfl, hb1⟩; have K1 := Lib.hid (KP.out _ hb1); have L1 := Lib.hid hb1; clear hb1; obtain ⟨v0, v1, v2, v3, v4, v5, v6⟩ := K1.out.1.cells; obtain ⟨e0, e1, e2, e3, e4⟩ := K1.out.2.1.cells; obtain ⟨y0, y1, y2, y3, y4, y5, y6⟩ := K1.out.2.2.1.cells; have fz := K1.out.2.2.1.frozen))
    | (go_at_call 15; ((with_reducible refine (C1.out _).mono ?_); rintro r w2 ⟨rfl, rfl⟩)))
  obtain ⟨g0, g1, g2, g3, g4, g5, g6⟩ := zput_cells K1.out.2.2.1
  exact bodyPost_ret (v := .tuple #[zV, .int .i64 2]) (by simp [results, Try.results8, go_sem, g0, g1, g2, g3, g4, g5, g6]) rfl ⟨rfl, below_zPut (p := w.heap.size + 1 + 1) K1.out.2.2.2 (by omega)⟩
set_option maxRecDepth 100000 in
set_option maxHeartbeats 16000000 in
theorem apply_arg2 {v : Vr} {H : Nat → Hd} {e : Ed} {hg ha : Hd} {w : World} (hM : VrAt v H w) (hN : NumsIn v) (hE : EdAt e hg ha w) (hR : RightP v) (h1 : ¬ BelP e.log v.log) (h2 : BelP e.next v.next) : Calls Try.prog 8 #[verV v H, edV e hg ha] w fun r w' => r = .returned (.tuple #[zV, .int .i64 2]) ∧ Below w.heap.size w w' := by
  obtain ⟨V0, E0, Z0, B0⟩ := z_at (w := w) (v := v) (H := H) (e := e) (hg := hg) (ha := ha)
  have RC := Lib.hid (fun u (hu : Below w.heap.size w u) => right_any (hM.below hu) hN)
  rw [tf_true hR] at RC
  have C1 := Lib.hid (fun u => isbel_any e.log v.log u)
  rw [decide_eq_false h1] at C1
  have C2 := Lib.hid (fun u => isbel_any e.next v.next u)
  rw [decide_eq_true h2] at C2
  have KP := Lib.hid (fun u (hu : Below (((w.alloc (verO v H)).alloc (edO e hg ha)).alloc (zO)).heap.size (((w.alloc (verO v H)).alloc (edO e hg ha)).alloc (zO)) u) => (⟨V0.below hu, E0.below hu, Z0.below hu, below_of B0 hu⟩ : VerB w.heap.size v H u ∧ EdB (w.heap.size + 1) e hg ha u ∧ VerB (w.heap.size + 1 + 1) zeroV noHd u ∧ Below w.heap.size w u))
  obtain ⟨v0, v1, v2, v3, v4, v5, v6⟩ := V0.cells
  obtain ⟨e0, e1, e2, e3, e4⟩ := E0.cells
  obtain ⟨y0, y1, y2, y3, y4, y5, y6⟩ := Z0.cells
  have fz := Z0.frozen
  have B00 := Lib.hid B0
  clear hM hN hE hR h1 h2 V0 E0 Z0 B0
  go_enter Try.func8, Try.ntmps8
  go_wp2_with (first
    | (go_at_call 14; ((with_reducible refine (RC.out _ B00.out).mono ?_); rintro r w1 ⟨rfl, hb1⟩; have K1 := Lib.hid (KP.out _ hb1); have L1 := Lib.hid hb1; clear hb1; obtain ⟨v0, v1, v2, v3, v4, v5, v6⟩ := K1.out.1.cells; obtain ⟨e0, e1, e2, e3, e4⟩ := K1.out.2.1.cells; obtain ⟨y0, y1, y2, y3, y4, y5, y6⟩ := K1.out.2.2.1.cells; have fz := K1.out.2.2.1.frozen))
    | (go_at_call 15; ((with_reducible refine (C1.out _).mono ?_); rintro r w2 ⟨rfl, rfl⟩))
    | (go_at_call 15; ((with_reducible refine (C2.out _).mono ?_); rintro r w2 ⟨rfl, rfl⟩)))
  obtain ⟨g0, g1, g2, g3, g4, g5, g6⟩ := zput_cells K1.out.2.2.1
  exact bodyPost_ret (v := .tuple #[zV, .int .i64 2]) (by simp [results, Try.results8, go_sem, g0, g1, g2, g3, g4, g5, g6]) rfl ⟨rfl, below_zPut (p := w.heap.size + 1 + 1) K1.out.2.2.2 (by omega)⟩
set_option maxRecDepth 100000 in
set_option maxHeartbeats 16000000 in
theorem apply_arg3 {v : Vr} {H : Nat → Hd} {e : Ed} {hg ha : Hd} {w : World} (hM : VrAt v H w) (hN : NumsIn v) (hE : EdAt e hg ha w) (hR : RightP v) (h1 : ¬ BelP e.log v.log) (h2 : ¬ BelP e.next v.next) (h3 : BelP e.seq v.seq) : Calls Try.prog 8 #[verV v H, edV e hg ha] w fun r w' => r = .returned (.tuple #[zV, .int .i64 2]) ∧ Below w.heap.size w w' := by
  obtain ⟨V0, E0, Z0, B0⟩ := z_at (w := w) (v := v) (H := H) (e := e) (hg := hg) (ha := ha)
  have RC := Lib.hid (fun u (hu : Below w.heap.size w u) => right_any (hM.below hu) hN)
  rw [tf_true hR] at RC
  have C1 := Lib.hid (fun u => isbel_any e.log v.log u)
  rw [decide_eq_false h1] at C1
  have C2 := Lib.hid (fun u => isbel_any e.next v.next u)
  rw [decide_eq_false h2] at C2
  have C3 := Lib.hid (fun u => isbel_any e.seq v.seq u)
  rw [decide_eq_true h3] at C3
  have KP := Lib.hid (fun u (hu : Below (((w.alloc (verO v H)).alloc (edO e hg ha)).alloc (zO)).heap.size (((w.alloc (verO v H)).alloc (edO e hg ha)).alloc (zO)) u) => (⟨V0.below hu, E0.below hu, Z0.below hu, below_of B0 hu⟩ : VerB w.heap.size v H u ∧ EdB (w.heap.size + 1) e hg ha u ∧ VerB (w.heap.size + 1 + 1) zeroV noHd u ∧ Below w.heap.size w u))
  obtain ⟨v0, v1, v2, v3, v4, v5, v6⟩ := V0.cells
  obtain ⟨e0, e1, e2, e3, e4⟩ := E0.cells
  obtain ⟨y0, y1, y2, y3, y4, y5, y6⟩ := Z0.cells
  have fz := Z0.frozen
  have B00 := Lib.hid B0
  clear hM hN hE hR h1 h2 h3 V0 E0 Z0 B0
  go_enter Try.func8, Try.ntmps8
  go_wp2_with (first
    | (go_at_call 14; ((with_reducible refine (RC.out _ B00.out).mono ?_); rintro r w1 ⟨rfl, hb1⟩; have K1 := Lib.hid (KP.out _ hb1); have L1 := Lib.hid hb1; clear hb1; obtain ⟨v0, v1, v2, v3, v4, v5, v6⟩ := K1.out.1.cells; obtain ⟨e0, e1, e2, e3, e4⟩ := K1.out.2.1.cells; obtain ⟨y0, y1, y2, y3, y4, y5, y6⟩ := K1.out.2.2.1.cells; have fz := K1.out.2.2.1.frozen))
    | (go_at_call 15; ((with_reducible refine (C1.out _).mono ?_); rintro r w2 ⟨rfl, rfl⟩))
    | (go_at_call 15; ((with_reducible refine (C2.out _).mono ?_); rintro r w2 ⟨rfl, rfl⟩))
    | (go_at_call 15; ((with_reducible refine (C3.out _).mono ?_); rintro r w2 ⟨rfl, rfl⟩)))
  obtain ⟨g0, g1, g2, g3, g4, g5, g6⟩ := zput_cells K1.out.2.2.1
  exact bodyPost_ret (v := .tuple #[zV, .int .i64 2]) (by simp [results, Try.results8, go_sem, g0, g1, g2, g3, g4, g5, g6]) rfl ⟨rfl, below_zPut (p := w.heap.size + 1 + 1) K1.out.2.2.2 (by omega)⟩
set_option maxRecDepth 100000 in
set_option maxHeartbeats 16000000 in
theorem apply_arg4 {v : Vr} {H : Nat → Hd} {e : Ed} {hg ha : Hd} {w : World} (hM : VrAt v H w) (hN : NumsIn v) (hE : EdAt e hg ha w) (hR : RightP v) (h1 : ¬ BelP e.log v.log) (h2 : ¬ BelP e.next v.next) (h3 : ¬ BelP e.seq v.seq) (hL : ¬ ListedP e) : Calls Try.prog 8 #[verV v H, edV e hg ha] w fun r w' => r = .returned (.tuple #[zV, .int .i64 2]) ∧ Below w.heap.size w w' := by
  obtain ⟨V0, E0, Z0, B0⟩ := z_at (w := w) (v := v) (H := H) (e := e) (hg := hg) (ha := ha)
  have RC := Lib.hid (fun u (hu : Below w.heap.size w u) => right_any (hM.below hu) hN)
  rw [tf_true hR] at RC
  have C1 := Lib.hid (fun u => isbel_any e.log v.log u)
  rw [decide_eq_false h1] at C1
  have C2 := Lib.hid (fun u => isbel_any e.next v.next u)
  rw [decide_eq_false h2] at C2
  have C3 := Lib.hid (fun u => isbel_any e.seq v.seq u)
  rw [decide_eq_false h3] at C3
  have LC := Lib.hid (fun u (hu : Below w.heap.size w u) => islisted_any (hE.below hu))
  rw [tf_false hL] at LC
  have KP := Lib.hid (fun u (hu : Below (((w.alloc (verO v H)).alloc (edO e hg ha)).alloc (zO)).heap.size (((w.alloc (verO v H)).alloc (edO e hg ha)).alloc (zO)) u) => (⟨V0.below hu, E0.below hu, Z0.below hu, below_of B0 hu⟩ : VerB w.heap.size v H u ∧ EdB (w.heap.size + 1) e hg ha u ∧ VerB (w.heap.size + 1 + 1) zeroV noHd u ∧ Below w.heap.size w u))
  obtain ⟨v0, v1, v2, v3, v4, v5, v6⟩ := V0.cells
  obtain ⟨e0, e1, e2, e3, e4⟩ := E0.cells
  obtain ⟨y0, y1, y2, y3, y4, y5, y6⟩ := Z0.cells
  have fz := Z0.frozen
  have B00 := Lib.hid B0
  clear hM hN hE hR h1 h2 h3 V0 E0 Z0 B0
  go_enter Try.func8, Try.ntmps8
  go_wp2_with (first
    | (go_at_call 14; ((with_reducible refine (RC.out _ B00.out).mono ?_); rintro r w1 ⟨rfl, hb1⟩; have K1 := Lib.hid (KP.out _ hb1); have L1 := Lib.hid hb1; clear hb1; obtain ⟨v0, v1, v2, v3, v4, v5, v6⟩ := K1.out.1.cells; obtain ⟨e0, e1, e2, e3, e4⟩ := K1.out.2.1.cells; obtain ⟨y0, y1, y2, y3, y4, y5, y6⟩ := K1.out.2.2.1.cells; have fz := K1.out.2.2.1.frozen))
    | (go_at_call 15; ((with_reducible refine (C1.out _).mono ?_); rintro r w2 ⟨rfl, rfl⟩))
    | (go_at_call 15; ((with_reducible refine (C2.out _).mono ?_); rintro r w2 ⟨rfl, rfl⟩))
    | (go_at_call 15; ((with_reducible refine (C3.out _).mono ?_); rintro r w2 ⟨rfl, rfl⟩))
    | (go_at_call 16; ((with_reducible refine (LC.out _ K1.out.2.2.2).mono ?_); rintro r w3 ⟨rfl, hb3⟩; have K3 := Lib.hid (KP.out _ (L1.out.trans (hb3.mono L1.out.size))); clear hb3; obtain ⟨y0, y1, y2, y3, y4, y5, y6⟩ := K3.out.2.2.1.cells; have fz := K3.out.2.2.1.frozen)))
  obtain ⟨g0, g1, g2, g3, g4, g5, g6⟩ := zput_cells K3.out.2.2.1
  exact bodyPost_ret (v := .tuple #[zV, .int .i64 2]) (by simp [results, Try.results8, go_sem, g0, g1, g2, g3, g4, g5, g6]) rfl ⟨rfl, below_zPut (p := w.heap.size + 1 + 1) K3.out.2.2.2 (by omega)⟩
/-- What Apply refuses at once. -/
def ArgP (v : Vr) (e : Ed) : Prop := ¬ RightP v ∨ BelP e.log v.log ∨ BelP e.next v.next ∨ BelP e.seq v.seq ∨ ¬ ListedP e
theorem apply_arg {v : Vr} {H : Nat → Hd} {e : Ed} {hg ha : Hd} {w : World} (hM : VrAt v H w) (hN : NumsIn v) (hE : EdAt e hg ha w) (h : ArgP v e) : Calls Try.prog 8 #[verV v H, edV e hg ha] w fun r w' => r = .returned (.tuple #[zV, .int .i64 2]) ∧ Below w.heap.size w w' := by
  by_cases hR : RightP v
  · by_cases h1 : BelP e.log v.log
    · exact apply_arg1 hM hN hE hR h1
    · by_cases h2 : BelP e.next v.next
      · exact apply_arg2 hM hN hE hR h1 h2
      · by_cases h3 : BelP e.seq v.seq
        · exact apply_arg3 hM hN hE hR h1 h2 h3
        · have hL : ¬ ListedP e := by
            rcases h with h | h | h | h | h
            · exact absurd hR h
            · exact absurd h h1
            · exact absurd h h2
            · exact absurd h h3
            · exact h
          exact apply_arg4 hM hN hE hR h1 h2 h3 hL
  · exact apply_arg0 hM hN hE hR
/-- The levels behind those that go, and behind those that are added. -/
noncomputable def outLv (v : Vr) (e : Ed) : Nat → List Mt := lvTo e.gone v.lv 4 0
noncomputable def newLv (v : Vr) (e : Ed) : Nat → List Mt := insLv (outLv v e) e.added
def NoneP (v : Vr) (e : Ed) : Prop := fdTo e.gone v.lv 4 0 = e.gone.length
def ThereP (v : Vr) (e : Ed) : Prop := NewP (nsTo (outLv v e) 4) (e.added.map Pl.tb)
theorem outLv_eq {v : Vr} {e : Ed} {i : Nat} (hi : i < 4) : outLv v e i = outL e.gone i (v.lv i) := by unfold outLv lvTo; rw [if_pos hi]
theorem outLv_sub {v : Vr} {e : Ed} {i : Nat} (hi : i < 4) : ∀ x ∈ outLv v e i, x ∈ v.lv i := fun x hx => by
  rw [outLv_eq hi] at hx
  exact (List.mem_filter.1 hx).1
theorem outLv_len {v : Vr} {e : Ed} {i : Nat} (hi : i < 4) : (outLv v e i).length ≤ (v.lv i).length := by
  rw [outLv_eq hi]; exact List.length_filter_le _ _
theorem newLv_mem {v : Vr} {e : Ed} {i : Nat} : ∀ x ∈ newLv v e i, x ∈ outLv v e i ∨ ∃ p ∈ e.added, p.lev = (i : Int) ∧ p.tb = x := fun x hx => by
  have h1 := (srt_perm (cfOf i) (swoOf i) (addTo e.added (outLv v e) e.added.length i)).1.mem_iff.1 hx
  unfold addTo at h1
  rcases List.mem_append.1 h1 with h | h
  · exact .inl h
  · obtain ⟨p, hp, rfl⟩ := List.mem_map.1 h
    obtain ⟨h2, h3⟩ := List.mem_filter.1 hp
    exact .inr ⟨p, List.mem_of_mem_take h2, by simpa using h3, rfl⟩
/-- What Apply comes to where its arguments stand. -/
theorem apply_yes {v : Vr} {H : Nat → Hd} {e : Ed} {hg ha : Hd} {w : World} (hM : VrAt v H w) (hI : VrIn v) (hE : EdAt e hg ha w) (iE : EdIn e) (hA : ¬ ArgP v e) (hgn : hg.n ≤ 1000) (han : ha.n ≤ 1000) :
    Calls Try.prog 8 #[verV v H, edV e hg ha] w fun r w' => ApplyD v e (tf (NoneP v e)) (tf (ThereP v e)) (newLv v e) w r w' := by
  have hR : RightP v := Classical.byContradiction fun h => hA (.inl h)
  have h1 : ¬ BelP e.log v.log := fun h => hA (.inr (.inl h))
  have h2 : ¬ BelP e.next v.next := fun h => hA (.inr (.inr (.inl h)))
  have h3 : ¬ BelP e.seq v.seq := fun h => hA (.inr (.inr (.inr (.inl h))))
  have hL : ListedP e := Classical.byContradiction fun h => hA (.inr (.inr (.inr (.inr h))))
  have hl64 : ∀ i, i < 4 → (v.lv i).length ≤ 64 := fun i hi => (hR.2 i hi).1
  refine apply_in hM (fun i hi x hx => (hI.2.2.2 i hi x hx).1) hE hR h1 h2 h3 hL (tf (NoneP v e)) (tf (ThereP v e)) (fun _ => True) (fun G u => ∃ B, w.heap.size + 3 ≤ B ∧ B ≤ u.heap.size ∧ OwnLv B (outLv v e) G u) (fun G x y ⟨B, b1, b2, b3⟩ hb => ⟨B, b1, Nat.le_trans b2 hb.size, b3.below hb⟩) (newLv v e) (fun i hi x hx => ?_) (fun u hu hb => ?_) (fun u q G hb hq hl _ hO hG => ?_)
  · rcases newLv_mem x hx with h | ⟨p, hp, _, rfl⟩
    · exact (hI.2.2.2 i hi x (outLv_sub hi x h)).1
    · exact (iE.2.2.2.2 p hp).2.1
  · refine (without_any (L := v.lv) (G := H) (fun i hi => (hM i hi).below hb) hI.2.2.2 (fun i hi => Nat.le_trans (hl64 i hi) (by omega)) (hE.gone.below hb) iE.2.2.2.1 hgn).mono ?_
    rintro r u' ⟨K, rfl, k1, k2, k3⟩
    exact ⟨K, rfl, trivial, ⟨_, by omega, k3, k1⟩, k2, fun i hi h0 => Nat.le_trans (by omega) ((k1.ms i hi).2 h0)⟩
  · obtain ⟨B, b1, b2, b3⟩ := hO
    have lq := (Array.getElem?_eq_some_iff.1 hl).1
    refine (insert_any (N := w.heap.size + 3) (B := B) hl b3 b1 hq (by omega) b2 (fun i hi => Nat.le_trans (outLv_len hi) (Nat.le_trans (hl64 i hi) (by omega))) (fun i hi x hx => (hI.2.2.2 i hi x (outLv_sub hi x hx)).1) (hE.added.below hb) (fun h0 => by have := (hE.added.sl.addr h0).2; omega) iE.2.2.2.2 (fun p hp => (hL.2 p hp).1) han).mono ?_
    rintro r u' ⟨rfl, k2, k3⟩
    exact ⟨rfl, k2, fun hok => k3 (tf_iff.1 hok)⟩
open Go.Sort
/-- Sorted lists of the same elements, one of them strictly so, are the same. -/
theorem sorted_eq (lt : Mt → Mt → Bool) : ∀ (l k : List Mt), l.Pairwise (fun x y => lt x y = true) → k.Perm l → k.Pairwise (fun x y => lt y x = false) → k = l
  | [], k, _, hp, _ => List.perm_nil.1 hp
  | x :: l, [], _, hp, _ => by have := hp.length_eq; simp at this
  | x :: l, y :: k, hl, hp, hk => by
    have h1 := List.pairwise_cons.1 hl
    have h2 := List.pairwise_cons.1 hk
    have e : y = x := by
      rcases Classical.em (y = x) with e | e
      · exact e
      · have hy : y ∈ x :: l := hp.mem_iff.1 (List.mem_cons_self ..)
        have hx : x ∈ y :: k := hp.mem_iff.2 (List.mem_cons_self ..)
        have hy' : y ∈ l := by
          rcases List.mem_cons.1 hy with h | h
          · exact absurd h e
          · exact h
        have hx' : x ∈ k := by
          rcases List.mem_cons.1 hx with h | h
          · exact absurd h.symm e
          · exact h
        have a := h1.1 y hy'
        have b := h2.1 x hx'
        rw [a] at b; cases b
    subst e
    rw [sorted_eq lt l k h1.2 ((List.perm_cons y).1 hp) h2.2]
theorem pairwise_of {R : Mt → Mt → Prop} : ∀ (l : List Mt), (∀ (i j : Nat) (x y : Mt), i < j → l[i]? = some x → l[j]? = some y → R x y) → l.Pairwise R
  | [], _ => List.Pairwise.nil
  | z :: l, h => List.pairwise_cons.2 ⟨fun y hy => by
      obtain ⟨j, hj, e⟩ := List.getElem_of_mem hy
      exact h 0 (j + 1) z y (by omega) rfl (by rw [List.getElem?_cons_succ, List.getElem?_eq_getElem hj, e]), pairwise_of l fun i j x y hij hx hy => h (i + 1) (j + 1) x y (by omega) hx hy⟩
/-- Sorting leaves a strictly sorted level, or one that holds the same, as that is. -/
theorem srt_same (cf : Mt → Mt → Int) (hO : SWO (ltOf cf)) {l k : List Mt} (hl : l.Pairwise (fun x y => ltOf cf x y = true)) (hp : k.Perm l) : srt cf k = l := by
  obtain ⟨h1, h2⟩ := srt_perm cf hO k
  exact sorted_eq (ltOf cf) l _ hl (h1.trans hp) (pairwise_of _ fun i j x y hij hx hy => h2 i j x y hij hx hy)
theorem pairwise_adj {R : Mt → Mt → Prop} (tr : ∀ x y z, R x y → R y z → R x z) : ∀ (l : List Mt), (∀ i x y, l[i]? = some x → l[i + 1]? = some y → R x y) → l.Pairwise R
  | [], _ => List.Pairwise.nil
  | [x], _ => by simp
  | x :: y :: l, h => by
    have ih := pairwise_adj tr (y :: l) (fun i a b ha hb => h (i + 1) a b ha hb)
    have hxy := h 0 x y rfl rfl
    refine List.pairwise_cons.2 ⟨fun z hz => ?_, ih⟩
    rcases List.mem_cons.1 hz with e | hz
    · rw [e]; exact hxy
    · exact tr x y z hxy ((List.pairwise_cons.1 ih).1 z hz)
/-- A right level is strictly sorted. -/
theorem lv_sorted {v : Vr} (h : RightP v) {i : Nat} (hi : i < 4) : (v.lv i).Pairwise (fun x y => ltOf (cfOf i) x y = true) := by
  obtain ⟨_, hm, _, _, ho⟩ := h.2 i hi
  refine pairwise_adj (fun x y z => (swoOf i).trans x y z) _ (fun k x y hx hy => ?_)
  have h1 := ho k x y hx hy
  unfold ordP at h1
  unfold cfOf
  by_cases e : i = 0
  · subst e
    rw [if_pos rfl, ltNum]
    simp at h1
    exact decide_eq_true h1
  · rw [if_neg e, ltKey]
    have hb : (i == 0) = false := by rw [beq_eq_false_iff_ne]; exact e
    rw [hb] at h1
    simp only [Bool.false_eq_true, if_false] at h1
    have hle := (hm x (List.mem_of_getElem? hx)).2.2.2.2.2.2.2.2.2.2.1
    rw [less_before] at h1 hle ⊢
    rcases Classical.em (x.fst.toList = x.lst.toList) with q | q
    · rw [q]; exact h1
    · rcases WideAt.bytes_total _ _ q with t | t
      · exact WideShapes.bytes_trans _ _ _ t h1
      · rw [hle] at t; cases t
theorem right_congr {v u : Vr} (h : SameV v u) (hr : RightP v) : RightP u := by
  obtain ⟨h1, h2, h3, h4⟩ := h
  have hn : ∀ i, i ≤ 4 → numsTo u i = numsTo v i := by
    intro i
    induction i with
    | zero => intro _; rfl
    | succ i ih => intro hi; show (u.lv i).map Mt.num ++ numsTo u i = _; rw [ih (by omega), ← h4 i (by omega)]; rfl
  refine ⟨by rw [← h1, ← h2, ← h3]; exact hr.1, fun i hi => ?_⟩
  have := hr.2 i hi
  unfold LvOK at this ⊢
  rw [← h4 i hi, ← h2, ← h3, hn i (by omega)]
  exact this
theorem plsTo_mem {v : Vr} : ∀ {n : Nat} {p : Pl}, p ∈ plsTo v n → ∃ i, i < n ∧ p.lev = (i : Int) ∧ p.tb ∈ v.lv i
  | 0, p, h => by cases h
  | n + 1, p, h => by
    rcases List.mem_append.1 h with h | h
    · obtain ⟨i, h1, h2⟩ := plsTo_mem h
      exact ⟨i, by omega, h2⟩
    · obtain ⟨x, hx, rfl⟩ := List.mem_map.1 h
      exact ⟨n, by omega, rfl, hx⟩
theorem plsTo_tb (v : Vr) : ∀ n, ((plsTo v n).map Pl.tb).map Mt.num = ((List.range n).flatMap fun i => (v.lv i).map Mt.num)
  | 0 => rfl
  | n + 1 => by
    show ((plsTo v n ++ (v.lv n).map (fun x => (⟨(n : Int), x⟩ : Pl))).map Pl.tb).map Mt.num = _
    rw [List.map_append, List.map_append, plsTo_tb v n, List.range_succ, List.flatMap_append]
    simp [List.map_map, Function.comp_def]
theorem numsTo_mem {v : Vr} : ∀ {n y : Nat}, y ∈ numsTo v n ↔ y ∈ ((plsTo v n).map Pl.tb).map Mt.num
  | 0, y => by simp [numsTo, plsTo]
  | n + 1, y => by
    show y ∈ (v.lv n).map Mt.num ++ numsTo v n ↔ y ∈ ((plsTo v n ++ (v.lv n).map (fun x => (⟨(n : Int), x⟩ : Pl))).map Pl.tb).map Mt.num
    rw [List.mem_append, List.map_append, List.map_append, List.mem_append, numsTo_mem]
    simp [List.map_map, Function.comp_def, or_comm]
theorem plsTo_nodup {v : Vr} (h : RightP v) : ∀ n, n ≤ 4 → (((plsTo v n).map Pl.tb).map Mt.num).Nodup
  | 0, _ => by simp [plsTo]
  | n + 1, hn => by
    obtain ⟨_, _, _, ⟨h1, h2⟩, _⟩ := h.2 n (by omega)
    show (((plsTo v n ++ (v.lv n).map (fun x => (⟨(n : Int), x⟩ : Pl))).map Pl.tb).map Mt.num).Nodup
    rw [List.map_append, List.map_append]
    have e : ((List.map (fun x => (⟨(n : Int), x⟩ : Pl)) (v.lv n)).map Pl.tb).map Mt.num = (v.lv n).map Mt.num := by simp [List.map_map, Function.comp_def]
    rw [e]
    refine List.nodup_append.2 ⟨plsTo_nodup h n (by omega), h1, fun a ha b hb hab => ?_⟩
    obtain ⟨x, hx, rfl⟩ := List.mem_map.1 hb
    exact h2 x hx (numsTo_mem.2 (hab ▸ ha))
theorem plsTo_lev (v : Vr) (i : Nat) : ∀ n, ((plsTo v n).filter (fun p : Pl => p.lev == (i : Int))).map Pl.tb = if i < n then v.lv i else []
  | 0 => by simp [plsTo]
  | n + 1 => by
    show ((plsTo v n ++ (v.lv n).map (fun x => (⟨(n : Int), x⟩ : Pl))).filter (fun p : Pl => p.lev == (i : Int))).map Pl.tb = _
    rw [List.filter_append, List.map_append, plsTo_lev v i n]
    by_cases e : i = n
    · subst e
      rw [if_neg (Nat.lt_irrefl i), if_pos (by omega), List.nil_append, List.filter_eq_self.2 (fun p hp => by
        obtain ⟨x, _, rfl⟩ := List.mem_map.1 hp
        simp)]
      simp [List.map_map, Function.comp_def]
    · have : ((v.lv n).map (fun x => (⟨(n : Int), x⟩ : Pl))).filter (fun p : Pl => p.lev == (i : Int)) = [] := List.filter_eq_nil_iff.2 (fun p hp => by
        obtain ⟨x, _, rfl⟩ := List.mem_map.1 hp
        simp
        omega)
      rw [this]
      by_cases h : i < n
      · rw [if_pos h, if_pos (by omega)]; simp
      · rw [if_neg h, if_neg (by omega)]; simp
theorem outLv_nil {v : Vr} {e : Ed} (hv : ∀ i, v.lv i = []) : outLv v e = fun _ => [] := by
  funext j
  unfold outLv lvTo outL
  simp [hv]
theorem nsTo_nil : ∀ n, nsTo (fun _ => []) n = []
  | 0 => rfl
  | n + 1 => by show [].map Mt.num ++ nsTo (fun _ => []) n = []; rw [nsTo_nil n]; rfl
theorem fdTo_nil (gs : List Gn) {L : Nat → List Mt} (hL : ∀ i, L i = []) : ∀ n k, fdTo gs L n k = 0
  | 0, k => by show inN gs 0 ((L 0).take k) = 0; rw [hL]; simp [inN]
  | n + 1, k => by show fdTo gs L n (L n).length + inN gs (n + 1) ((L (n + 1)).take k) = 0; rw [fdTo_nil gs hL, hL (n + 1)]; simp [inN]
/-- The whole edit makes the version of the first one. -/
theorem whole_makes {v : Vr} (h : RightP v) : ¬ ArgP firstV (wholeE v) ∧ NoneP firstV (wholeE v) ∧ ThereP firstV (wholeE v) ∧ SameV v (madeV firstV (wholeE v) (newLv firstV (wholeE v))) ∧ RightP (madeV firstV (wholeE v) (newLv firstV (wholeE v))) := by
  have e0 : outLv firstV (wholeE v) = fun _ => [] := outLv_nil (fun _ => rfl)
  have hs : SameV v (madeV firstV (wholeE v) (newLv firstV (wholeE v))) := by
    have a1 := h.1.1.1
    have b1 := h.1.2.1.1
    refine ⟨?_, ?_, ?_, fun i hi => ?_⟩
    · show v.log = orN v.log 1
      unfold orN; rw [if_neg (by omega)]
    · show v.next = orN v.next 1
      unfold orN; rw [if_neg (by omega)]
    · show v.seq = orN v.seq 0
      unfold orN; split <;> omega
    · show v.lv i = insLv (outLv firstV (wholeE v)) (plsTo v 4) i
      rw [e0]
      unfold insLv
      refine (srt_same _ (swoOf i) (lv_sorted h hi) ?_).symm
      unfold addTo
      rw [List.take_length, plsTo_lev, if_pos hi, List.nil_append]
  refine ⟨?_, ?_, ?_, hs, right_congr hs h⟩
  · rintro (h1 | h1 | h1 | h1 | h1)
    · exact h1 (right_nil 1 1 0 ⟨by omega, by omega⟩ ⟨by omega, by omega⟩ (by omega))
    · have : v.log < 1 := h1.2
      have := h.1.1.1; omega
    · have : v.next < 1 := h1.2
      have := h.1.2.1.1; omega
    · exact absurd h1.2 (Nat.not_lt_zero _)
    · refine h1 ⟨fun g hg => (by cases hg), fun p hp => ?_⟩
      obtain ⟨i, hi, h2, h3⟩ := plsTo_mem hp
      exact ⟨⟨by omega, by omega⟩, (h.2 i hi).2.1 _ h3⟩
  · exact fdTo_nil _ (fun _ => rfl) 4 0
  · unfold ThereP
    rw [e0, nsTo_nil]
    exact ⟨plsTo_nodup h 4 (Nat.le_refl _), fun x _ hx => by cases hx⟩
theorem whole_in {v : Vr} (h : VrIn v) : EdIn (wholeE v) := by
  refine ⟨h.1, h.2.1, h.2.2.1, fun g hg => (by cases hg), fun p hp => ?_⟩
  obtain ⟨i, hi, h2, h3⟩ := plsTo_mem hp
  exact ⟨by rw [h2]; simp [Lit.wf, IntKind.min, IntKind.max, IntKind.signed, IntKind.bits]; omega, h.2.2.2 i hi _ h3⟩
end Go.Proofs.Ytnmjfdejgfmoiaa
