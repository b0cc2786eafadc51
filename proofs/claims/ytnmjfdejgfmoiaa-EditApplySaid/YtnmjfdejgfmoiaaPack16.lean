/-
  The document's Right. Condition: numbers of 64 bits (every version that came in).
-/
import Derived.Test.YtnmjfdejgfmoiaaPack15
import Derived.Deep.AppendLies
namespace Go.Proofs.Ytnmjfdejgfmoiaa
set_option maxRecDepth 100000
open Go.RowKit
theorem wr_all (m : Nat) (h : m ≤ 1099511627776) : wrap64 ((m : Int) + 1 - 1) = (m : Int) ∧ (m : Int) + 1 - 1 = (m : Int) ∧ wrap64 (m : Int) = (m : Int) ∧ IntKind.i64.wrap (m : Int) = (m : Int) ∧ IntKind.i64.wrap ((m : Int) + 1 - 1) = (m : Int) := by
  have e : (m : Int) + 1 - 1 = (m : Int) := by omega
  have e2 : wrap64 (m : Int) = (m : Int) := by unfold wrap64; omega
  have e3 : IntKind.i64.wrap (m : Int) = (m : Int) := by simp [IntKind.wrap_i64]; omega
  exact ⟨by rw [e, e2], e, e2, e3, by rw [e, e3]⟩
theorem app_b8 (n : Nat) (h : n ≤ 1000) : n + 1 ≤ maxLen ∧ (n + 1) * 8 ≤ 140737488355328 := by unfold maxLen; omega
def cellsQ (x : Nat) : List Value := [.int .u64 (x : Int)]
theorem infoN : (Try.prog.info? 22).map (fun i => (i.zero, i.size, i.bytes)) = some (some (.int .u64 0), 1, 8) := by kernel_rfl
/-- The conditions on one table, at its place. -/
def ElP (v : Vr) (i : Nat) (x : Mt) : Prop := MayP x ∧ x.num < v.next ∧ x.gr ≤ v.seq
/-- A level is right as far as its k-th table. -/
structure LvTo (v : Vr) (i k : Nat) : Prop where
  el : AllTo (ElP v i) (v.lv i) k
  new : NewP (numsTo v i) ((v.lv i).take k)
  ord : ∀ m x y, m + 1 < k → (v.lv i)[m]? = some x → (v.lv i)[m + 1]? = some y → ordP (i == 0) x y
theorem LvTo.zero (v : Vr) (i : Nat) : LvTo v i 0 := ⟨AllTo.zero, ⟨List.nodup_nil, fun x hx => by simp at hx⟩, fun m x y h => absurd h (Nat.not_lt_zero _)⟩
theorem LvTo.succ {v : Vr} {i k : Nat} {x : Mt} (h : LvTo v i k) (hx : (v.lv i)[k]? = some x) (he : ElP v i x) (hn : x.num ∉ ((v.lv i).take k).map Mt.num ++ numsTo v i) (ho : ∀ y, 0 < k → (v.lv i)[k - 1]? = some y → ordP (i == 0) y x) : LvTo v i (k + 1) :=
  ⟨h.el.succ hx he, newP_step h.new hx hn, fun m a b hm ha hb => by
    rcases Nat.lt_or_ge (m + 1) k with h1 | h1
    · exact h.ord m a b h1 ha hb
    · obtain rfl : k = m + 1 := by omega
      rw [hx] at hb; cases hb
      exact ho a (by omega) (by simpa using ha)⟩
theorem LvTo.all {v : Vr} {i n : Nat} (h : LvTo v i n) (hn : (v.lv i).length = n) (h64 : n ≤ 64) : LvOK v i := by
  have e : (v.lv i).take n = v.lv i := List.take_of_length_le (by omega)
  have hn' := h.new
  rw [e] at hn'
  refine ⟨by omega, fun x hx => (h.el.all hn x hx).1, fun x hx => ⟨(h.el.all hn x hx).2.1, (h.el.all hn x hx).2.2⟩, hn', fun m x y hx hy => h.ord m x y ?_ hx hy⟩
  have := (List.getElem?_eq_some_iff.1 hy).1
  omega
theorem lv_no_el {v : Vr} {i k : Nat} {x : Mt} (hx : (v.lv i)[k]? = some x) (h : ¬ ElP v i x) : ¬ LvOK v i := fun g => h ⟨g.2.1 x (mt_mem hx), (g.2.2.1 x (mt_mem hx)).1, (g.2.2.1 x (mt_mem hx)).2⟩
theorem lv_no_new {v : Vr} {i k : Nat} {x : Mt} (hx : (v.lv i)[k]? = some x) (h : x.num ∈ ((v.lv i).take k).map Mt.num ++ numsTo v i) : ¬ LvOK v i := fun g => newP_no hx h g.2.2.2.1
theorem lv_no_ord {v : Vr} {i k : Nat} {x y : Mt} (hy : (v.lv i)[k]? = some y) (hx : (v.lv i)[k + 1]? = some x) (h : ¬ ordP (i == 0) y x) : ¬ LvOK v i := fun g => h (g.2.2.2.2 k y x hy hx)
/-- The numbers that were seen: an own row. -/
structure SeenAt (B n : Nat) (S T : List Nat) (sv : Value) (w : World) : Prop where
  row : w.ownsRow B 22 1 sv n (S.flatMap cellsQ)
  len : S.length = n
  mem : ∀ x, x ∈ S ↔ x ∈ T
theorem SeenAt.below {B n : Nat} {S T : List Nat} {sv : Value} {w w' : World} (h : SeenAt B n S T sv w) (hb : Below w.heap.size w w') : SeenAt B n S T sv w' := ⟨ownsRow_stays h.row (Stays.of_below hb), h.len, h.mem⟩
theorem mem_take_succ {v : Vr} {i k : Nat} {x : Mt} (hx : (v.lv i)[k]? = some x) {S : List Nat} (hS : ∀ y, y ∈ S ↔ y ∈ ((v.lv i).take k).map Mt.num ++ numsTo v i) : ∀ y, y ∈ S ++ [x.num] ↔ y ∈ ((v.lv i).take (k + 1)).map Mt.num ++ numsTo v i := fun y => by
  have e : (v.lv i).take (k + 1) = (v.lv i).take k ++ [x] := by rw [List.take_add_one, hx]; rfl
  have := hS y
  rw [e]
  simp only [List.mem_append, List.map_append, List.map_cons, List.map_nil, List.mem_singleton] at this ⊢
  rw [this]
  constructor
  · rintro ((h | h) | h)
    · exact .inl (.inl h)
    · exact .inr h
    · exact .inl (.inr h)
  · rintro ((h | h) | h)
    · exact .inl (.inl h)
    · exact .inr h
    · exact .inl (.inr h)
/-- What stands in the rounds. -/
structure RfI (v : Vr) (H : Nat → Hd) (i n : Nat) (T : List Nat) (sv : Value) (w wr : World) : Prop where
  bel : Below w.heap.size w wr
  ver : VerB w.heap.size v H wr
  lev : ∀ k, k < i → LvOK v k
  big : n ≤ 64 * i + 64
  seen : ∃ S, SeenAt (w.heap.size + 1) n S T sv wr
theorem RfI.below {v : Vr} {H : Nat → Hd} {i n : Nat} {T : List Nat} {sv : Value} {w wr u : World} (k : RfI v H i n T sv w wr) (hb : Below wr.heap.size wr u) : RfI v H i n T sv w u := by
  obtain ⟨S, hS⟩ := k.seen
  exact ⟨below_of k.bel hb, k.ver.below hb, k.lev, k.big, ⟨S, hS.below hb⟩⟩
set_option maxRecDepth 100000 in
set_option maxHeartbeats 16000000 in
theorem rr_0 {v : Vr} {H : Nat → Hd} {w : World} (k0 : (v.log : Int) < 1) : Calls Try.prog 20 #[verV v H] w fun e w' => e = .returned (.bool false) ∧ Below w.heap.size w w' := by
  have B0 := Lib.hid (below_alloc w (verO v H))
  go_enter Try.func20, Try.ntmps20
  go_wp2_with fail
  go_returns
  exact ⟨rfl, B0.out⟩
set_option maxRecDepth 100000 in
set_option maxHeartbeats 16000000 in
theorem rr_1 {v : Vr} {H : Nat → Hd} {w : World} (k0 : ¬ (v.log : Int) < 1) (k1 : (99999999 : Int) < (v.log : Int)) : Calls Try.prog 20 #[verV v H] w fun e w' => e = .returned (.bool false) ∧ Below w.heap.size w w' := by
  have B0 := Lib.hid (below_alloc w (verO v H))
  go_enter Try.func20, Try.ntmps20
  go_wp2_with fail
  go_returns
  exact ⟨rfl, B0.out⟩
set_option maxRecDepth 100000 in
set_option maxHeartbeats 16000000 in
theorem rr_2 {v : Vr} {H : Nat → Hd} {w : World} (k0 : ¬ (v.log : Int) < 1) (k1 : ¬ (99999999 : Int) < (v.log : Int)) (k2 : (v.next : Int) < 1) : Calls Try.prog 20 #[verV v H] w fun e w' => e = .returned (.bool false) ∧ Below w.heap.size w w' := by
  have B0 := Lib.hid (below_alloc w (verO v H))
  go_enter Try.func20, Try.ntmps20
  go_wp2_with fail
  go_returns
  exact ⟨rfl, B0.out⟩
set_option maxRecDepth 100000 in
set_option maxHeartbeats 16000000 in
theorem rr_3 {v : Vr} {H : Nat → Hd} {w : World} (k0 : ¬ (v.log : Int) < 1) (k1 : ¬ (99999999 : Int) < (v.log : Int)) (k2 : ¬ (v.next : Int) < 1) (k3 : (99999999 : Int) < (v.next : Int)) : Calls Try.prog 20 #[verV v H] w fun e w' => e = .returned (.bool false) ∧ Below w.heap.size w w' := by
  have B0 := Lib.hid (below_alloc w (verO v H))
  go_enter Try.func20, Try.ntmps20
  go_wp2_with fail
  go_returns
  exact ⟨rfl, B0.out⟩
set_option maxRecDepth 100000 in
set_option maxHeartbeats 16000000 in
theorem rr_4 {v : Vr} {H : Nat → Hd} {w : World} (k0 : ¬ (v.log : Int) < 1) (k1 : ¬ (99999999 : Int) < (v.log : Int)) (k2 : ¬ (v.next : Int) < 1) (k3 : ¬ (99999999 : Int) < (v.next : Int)) (k4 : decide ((72057594037927936 : Int) ≤ (v.seq : Int)) = true) : Calls Try.prog 20 #[verV v H] w fun e w' => e = .returned (.bool false) ∧ Below w.heap.size w w' := by
  have B0 := Lib.hid (below_alloc w (verO v H))
  go_enter Try.func20, Try.ntmps20
  go_wp2_with fail
  go_returns
  exact ⟨rfl, B0.out⟩
set_option maxRecDepth 100000 in
set_option maxHeartbeats 16000000 in
theorem rright_main {v : Vr} {H : Nat → Hd} {w : World} (hM : VrAt v H w) (hI : NumsIn v) (k0 : ¬ (v.log : Int) < 1) (k1 : ¬ (99999999 : Int) < (v.log : Int)) (k2 : ¬ (v.next : Int) < 1) (k3 : ¬ (99999999 : Int) < (v.next : Int)) (k4 : decide ((72057594037927936 : Int) ≤ (v.seq : Int)) = false) : Calls Try.prog 20 #[verV v H] w fun e w' => e = .returned (.bool (tf (∀ i, i < 4 → LvOK v i))) ∧ Below w.heap.size w w' := by
  obtain ⟨T, hT⟩ := named (tf (∀ i, i < 4 → LvOK v i))
  rw [← hT.out]
  replace hT := Lib.hid hT.out
  replace hM := Lib.hid hM
  obtain ⟨ti, hi0, hy0, hy1, hy2⟩ := info_parts infoN
  have I0 : Hid (RfI v H 0 0 (numsTo v 0) (.slice none 0 0) w (w.alloc (verO v H))) := Lib.hid ⟨below_alloc _ _, VerB.new _ _ _, fun k hk => absurd hk (Nat.not_lt_zero k), by omega, ⟨[], World.ownsRow_nil _ _ _ _, rfl, fun x => Iff.rfl⟩⟩
  go_enter Try.func20, Try.ntmps20
  go_wp2_with fail
  clear k0 k1 k2 k3 k4
  go_loopw [3, 4] (fun s i wr => ∃ j n q1 q2 q3, j ≤ 4 ∧ i = .int .i64 ((j : Nat) : Int) ∧ s = .slice q1 q2 q3 ∧ Hid (RfI v H j n (numsTo v j) (.slice q1 q2 q3) w wr ∧ n ≤ 64 * j)) (fun _ i _ => 4 - (intOf i).toNat)
  case atStart => exact ⟨0, 0, none, 0, 0, Nat.zero_le _, rfl, rfl, Lib.hid ⟨I0.out, by omega⟩⟩
  case round =>
    obtain ⟨j, n0, q1, q2, q3, hj, rfl, rfl, hi⟩ := hrel
    by_cases hlt : j < 4
    · have i0 : (j : Int) < 4 := by omega
      have hno : Hid (¬ LvOK v j → T = false) := Lib.hid (fun h => by rw [hT.out]; exact tf_false (fun g => h (g j hlt)))
      have cl := hi.out.1.ver.lev hlt
      have Mr : Ms (H j) (v.lv j) wr := (hM.out j hlt).below hi.out.1.bel

      obtain ⟨hd, hhd⟩ : ∃ hd, hd = H j := ⟨_, rfl⟩
      rw [← hhd] at cl Mr
      have Mall : Hid (∀ u, Below w.heap.size w u → Ms hd (v.lv j) u) := Lib.hid (fun u hu => by rw [hhd]; exact (hM.out j hlt).below hu)
      clear hhd
      obtain ⟨a, n, c, b, o⟩ := hd
      have hlen : Hid ((v.lv j).length = n) := Lib.hid Mr.len
      have m0 : c ≤ 9223372036854775807 := Mr.sl.most
      have q0 : n ≤ c := Mr.sl.cap
      simp only at cl
      clear Mr
      by_cases h64 : n ≤ 64
      · have i64 : ¬ (64 : Int) < (n : Int) := by omega
        have hall : Hid (LvTo v j n → LvOK v j) := Lib.hid (fun h => h.all hlen.out h64)
        go_wp2_with fail
        go_loopw [3, 6] (fun s kk wr => ∃ k p1 p3, k ≤ n ∧ kk = .int .i64 ((k : Nat) : Int) ∧ s = .slice p1 (n0 + k) p3 ∧ Hid (RfI v H j (n0 + k) (((v.lv j).take k).map Mt.num ++ numsTo v j) (.slice p1 (n0 + k) p3) w wr) ∧ Hid (LvTo v j k)) (fun _ kk _ => n - (intOf kk).toNat)
        case atStart =>
          obtain ⟨S, hS⟩ := hi.out.1.seen
          obtain ⟨sa, sc, sb, he, _⟩ := sl_of_rowG (cells := cellsQ) (fun _ => rfl) hS.len hS.row
          cases he
          exact ⟨0, _, _, Nat.zero_le _, rfl, rfl, hi.out.1 |> fun h => Lib.hid h, Lib.hid (LvTo.zero v j)⟩
        case round =>
          obtain ⟨k, p1, p3, hk, rfl, rfl, hq, hto⟩ := hrel
          by_cases hkn : k < n
          · obtain ⟨x, hx, rfl, hbl, x0, x1, x2, x3, x4, x5, x6⟩ := (Mall.out _ hq.out.bel).at7x hkn
            obtain ⟨v0, v1, v2, v3, v4, v5, v6⟩ := hq.out.ver.cells
            have j0 : (k : Int) < (n : Int) := by omega
            have j1 : (0 : Int) ≤ (k : Int) := by omega
            have hJ : Hid (RfI v H j (n0 + k) (((v.lv j).take k).map Mt.num ++ numsTo v j) (.slice p1 (n0 + k) p3) w wr.drew) := Lib.hid (hq.out.below (Below.refl _ _).drew)
            have mm0 : Hid ((wr.drew.cell? ⟨b, o + k * 7, none⟩ = some (.int .u64 (x.num : Int)) ∧ wr.drew.cell? ⟨b, o + k * 7 + 1, none⟩ = some (.int .i64 x.size) ∧ wr.drew.cell? ⟨b, o + k * 7 + 2, none⟩ = some (.int .i64 x.rows) ∧ wr.drew.cell? ⟨b, o + k * 7 + 3, none⟩ = some (.string x.fst) ∧ wr.drew.cell? ⟨b, o + k * 7 + 4, none⟩ = some (.string x.lst) ∧ wr.drew.cell? ⟨b, o + k * 7 + 5, none⟩ = some (.int .u64 (x.least : Int)) ∧ wr.drew.cell? ⟨b, o + k * 7 + 6, none⟩ = some (.int .u64 (x.gr : Int))) ∧ wr.drew.cell? ⟨w.heap.size, 1, none⟩ = some (.int .u64 (v.next : Int)) ∧ wr.drew.cell? ⟨w.heap.size, 2, none⟩ = some (.int .u64 (v.seq : Int))) := Lib.hid ⟨⟨x0, x1, x2, x3, x4, x5, x6⟩, v1, v2⟩
            have hkeep : Hid (∀ u, Below wr.drew.heap.size wr.drew u → (u.cell? ⟨b, o + k * 7, none⟩ = some (.int .u64 (x.num : Int)) ∧ u.cell? ⟨b, o + k * 7 + 1, none⟩ = some (.int .i64 x.size) ∧ u.cell? ⟨b, o + k * 7 + 2, none⟩ = some (.int .i64 x.rows) ∧ u.cell? ⟨b, o + k * 7 + 3, none⟩ = some (.string x.fst) ∧ u.cell? ⟨b, o + k * 7 + 4, none⟩ = some (.string x.lst) ∧ u.cell? ⟨b, o + k * 7 + 5, none⟩ = some (.int .u64 (x.least : Int)) ∧ u.cell? ⟨b, o + k * 7 + 6, none⟩ = some (.int .u64 (x.gr : Int))) ∧ u.cell? ⟨w.heap.size, 1, none⟩ = some (.int .u64 (v.next : Int)) ∧ u.cell? ⟨w.heap.size, 2, none⟩ = some (.int .u64 (v.seq : Int))) := Lib.hid (fun u hu => by
              obtain ⟨⟨c0, c1, c2, c3, c4, c5, c6⟩, d1, d2⟩ := mm0.out
              exact ⟨⟨cell_keep hu c0, cell_keep hu c1, cell_keep hu c2, cell_keep hu c3, cell_keep hu c4, cell_keep hu c5, cell_keep hu c6⟩, cell_keep hu d1, cell_keep hu d2⟩)
            have VC := Lib.hid (fun u => rmay_any x u)
            have hnoE : Hid (¬ ElP v j x → T = false) := Lib.hid (fun h => hno.out (lv_no_el hx h))
            have hnoN : Hid (x.num ∈ ((v.lv j).take k).map Mt.num ++ numsTo v j → T = false) := Lib.hid (fun h => hno.out (lv_no_new hx h))
            replace hx := Lib.hid hx
            clear x0 x1 x2 x3 x4 x5 x6 v0 v1 v2 v3 v4 v5 v6 cl
            by_cases e1 : MayP x
            · rw [decide_eq_true e1] at VC
              by_cases e2 : x.num < v.next
              · have f2 : decide (v.next ≤ x.num) = false := decide_eq_false (by omega)
                by_cases e3 : x.gr ≤ v.seq
                · have f3 : decide (v.seq < x.gr) = false := decide_eq_false (by omega)
                  have hEl : Hid (ElP v j x) := Lib.hid ⟨e1, e2, e3⟩
                  clear e1 e2 e3 hnoE
                  go_upto_region 13 with fail
                  refine wp_region_held_drew (S := (fun u => (u.cell? ⟨b, o + k * 7, none⟩ = some (.int .u64 (x.num : Int)) ∧ u.cell? ⟨b, o + k * 7 + 1, none⟩ = some (.int .i64 x.size) ∧ u.cell? ⟨b, o + k * 7 + 2, none⟩ = some (.int .i64 x.rows) ∧ u.cell? ⟨b, o + k * 7 + 3, none⟩ = some (.string x.fst) ∧ u.cell? ⟨b, o + k * 7 + 4, none⟩ = some (.string x.lst) ∧ u.cell? ⟨b, o + k * 7 + 5, none⟩ = some (.int .u64 (x.least : Int)) ∧ u.cell? ⟨b, o + k * 7 + 6, none⟩ = some (.int .u64 (x.gr : Int))) ∧ u.cell? ⟨w.heap.size, 1, none⟩ = some (.int .u64 (v.next : Int)) ∧ u.cell? ⟨w.heap.size, 2, none⟩ = some (.int .u64 (v.seq : Int)))) (by kernel_rfl) (mm0.out) (fun hHeld => ?_)
                  refine held_take (i := 0) (v := ?_) rfl (by kernel_rfl) (by kernel_rfl) (by kernel_rfl) (fun _ _ _ h => h) (by rfl) (fun w hSw => ?_) (by assumption) ?_; rotate_left 1; focus (((try dsimp only at hSw); first | (go_simp; done) | (go_simp; with_reducible rfl)))
                  try simp only [Act.put, List.setIfInBounds_toArray, List.set_cons_zero, List.set_cons_succ]
                  refine held_take (i := 1) (v := ?_) rfl (by kernel_rfl) (by kernel_rfl) (by kernel_rfl) (fun _ _ _ h => h) (by rfl) (fun w hSw => ?_) (by assumption) ?_; rotate_left 1; focus (((try dsimp only at hSw); first | (go_simp; done) | (go_simp; with_reducible rfl)))
                  try simp only [Act.put, List.setIfInBounds_toArray, List.set_cons_zero, List.set_cons_succ]
                  refine held_take (i := 2) (v := ?_) rfl (by kernel_rfl) (by kernel_rfl) (by kernel_rfl) (fun _ _ _ h => h) (by rfl) (fun w hSw => ?_) (by assumption) ?_; rotate_left 1; focus (((try dsimp only at hSw); first | (go_simp; done) | (go_simp; with_reducible rfl)))
                  try simp only [Act.put, List.setIfInBounds_toArray, List.set_cons_zero, List.set_cons_succ]
                  refine held_take (i := 3) (v := ?_) rfl (by kernel_rfl) (by kernel_rfl) (by kernel_rfl) (fun _ _ _ h => h) (by rfl) (fun w hSw => ?_) (by assumption) ?_; rotate_left 1; focus (((try dsimp only at hSw); first | (go_simp; done) | (go_simp; with_reducible rfl)))
                  try simp only [Act.put, List.setIfInBounds_toArray, List.set_cons_zero, List.set_cons_succ]
                  refine held_call (i := 4) (by kernel_rfl) rfl (by rfl) (fun K hK => ?_)
                  go_simp
                  (go_at_call 44; ((with_reducible refine (VC.out _).mono ?_); rintro e w3 ⟨rfl, hb3⟩))
                  have m3 := Lib.hid (hkeep.out _ hb3)
                  have I3 := Lib.hid (hJ.out.below hb3)
                  clear hb3
                  refine hK.out _ _ (m3.out) (fun hHeld => ?_)
                  try simp only [Act.put, List.setIfInBounds_toArray, List.set_cons_zero, List.set_cons_succ]
                  refine held_take (i := 5) (v := ?_) rfl (by kernel_rfl) (by kernel_rfl) (by kernel_rfl) (fun _ _ _ h => h) (by rfl) (fun w hSw => ?_) (by assumption) ?_; rotate_left 1; focus (((try dsimp only at hSw); first | (go_simp; done) | (go_simp; with_reducible rfl)))
                  try simp only [Act.put, List.setIfInBounds_toArray, List.set_cons_zero, List.set_cons_succ]
                  refine held_take (i := 6) (v := ?_) rfl (by kernel_rfl) (by kernel_rfl) (by kernel_rfl) (fun _ _ _ h => h) (by rfl) (fun w hSw => ?_) (by assumption) ?_; rotate_left 1; focus (((try dsimp only at hSw); first | (go_simp; done) | (go_simp; with_reducible rfl)))
                  try simp only [Act.put, List.setIfInBounds_toArray, List.set_cons_zero, List.set_cons_succ]
                  refine held_take (i := 7) (v := ?_) rfl (by kernel_rfl) (by kernel_rfl) (by kernel_rfl) (fun _ _ _ h => h) (by rfl) (fun w hSw => ?_) (by assumption) ?_; rotate_left 1; focus (((try dsimp only at hSw); first | (go_simp; done) | (go_simp; with_reducible rfl)))
                  try simp only [Act.put, List.setIfInBounds_toArray, List.set_cons_zero, List.set_cons_succ]
                  refine held_take (i := 8) (v := ?_) rfl (by kernel_rfl) (by kernel_rfl) (by kernel_rfl) (fun _ _ _ h => h) (by rfl) (fun w hSw => ?_) (by assumption) ?_; rotate_left 1; focus (((try dsimp only at hSw); first | (go_simp; done) | (go_simp; with_reducible rfl)))
                  try simp only [Act.put, List.setIfInBounds_toArray, List.set_cons_zero, List.set_cons_succ]
                  refine held_take (i := 9) (v := ?_) rfl (by kernel_rfl) (by kernel_rfl) (by kernel_rfl) (fun _ _ _ h => h) (by rfl) (fun w hSw => ?_) (by assumption) ?_; rotate_left 1; focus (((try dsimp only at hSw); first | (go_simp; done) | (go_simp; with_reducible rfl)))
                  try simp only [Act.put, List.setIfInBounds_toArray, List.set_cons_zero, List.set_cons_succ]
                  refine held_take (i := 10) (v := ?_) rfl (by kernel_rfl) (by kernel_rfl) (by kernel_rfl) (fun _ _ _ h => h) (by rfl) (fun w hSw => ?_) (by assumption) ?_; rotate_left 1; focus (((try dsimp only at hSw); first | (go_simp; done) | (go_simp; with_reducible rfl)))
                  try simp only [Act.put, List.setIfInBounds_toArray, List.set_cons_zero, List.set_cons_succ]
                  refine held_take (i := 11) (v := ?_) rfl (by kernel_rfl) (by kernel_rfl) (by kernel_rfl) (fun _ _ _ h => h) (by rfl) (fun w hSw => ?_) (by assumption) ?_; rotate_left 1; focus (((try dsimp only at hSw); first | (go_simp; done) | (go_simp; with_reducible rfl)))
                  try simp only [Act.put, List.setIfInBounds_toArray, List.set_cons_zero, List.set_cons_succ]
                  refine held_take (i := 12) (v := ?_) rfl (by kernel_rfl) (by kernel_rfl) (by kernel_rfl) (fun _ _ _ h => h) (by rfl) (fun w hSw => ?_) (by assumption) ?_; rotate_left 1; focus (((try dsimp only at hSw); first | (go_simp; done) | (go_simp; with_reducible rfl)))
                  try simp only [Act.put, List.setIfInBounds_toArray, List.set_cons_zero, List.set_cons_succ]
                  refine held_take (i := 13) (v := ?_) rfl (by kernel_rfl) (by kernel_rfl) (by kernel_rfl) (fun _ _ _ h => h) (by rfl) (fun w hSw => ?_) (by assumption) ?_; rotate_left 1; focus (((try dsimp only at hSw); first | (go_simp; done) | (go_simp; with_reducible rfl)))
                  try simp only [Act.put, List.setIfInBounds_toArray, List.set_cons_zero, List.set_cons_succ]
                  refine held_take (i := 14) (v := ?_) rfl (by kernel_rfl) (by kernel_rfl) (by kernel_rfl) (fun _ _ _ h => h) (by rfl) (fun w hSw => ?_) (by assumption) ?_; rotate_left 1; focus (((try dsimp only at hSw); first | (go_simp; done) | (go_simp; with_reducible rfl)))
                  try simp only [Act.put, List.setIfInBounds_toArray, List.set_cons_zero, List.set_cons_succ]
                  refine held_take (i := 15) (v := ?_) rfl (by kernel_rfl) (by kernel_rfl) (by kernel_rfl) (fun _ _ _ h => h) (by rfl) (fun w hSw => ?_) (by assumption) ?_; rotate_left 1; focus (((try dsimp only at hSw); first | (go_simp; done) | (go_simp; with_reducible rfl)))
                  try simp only [Act.put, List.setIfInBounds_toArray, List.set_cons_zero, List.set_cons_succ]
                  refine held_take (i := 16) (v := ?_) rfl (by kernel_rfl) (by kernel_rfl) (by kernel_rfl) (fun _ _ _ h => h) (by rfl) (fun w hSw => ?_) (by assumption) ?_; rotate_left 1; focus (((try dsimp only at hSw); first | (go_simp; done) | (go_simp; with_reducible rfl)))
                  try simp only [Act.put, List.setIfInBounds_toArray, List.set_cons_zero, List.set_cons_succ]
                  refine held_take (i := 17) (v := ?_) rfl (by kernel_rfl) (by kernel_rfl) (by kernel_rfl) (fun _ _ _ h => h) (by rfl) (fun w hSw => ?_) (by assumption) ?_; rotate_left 1; focus (((try dsimp only at hSw); first | (go_simp; done) | (go_simp; with_reducible rfl)))
                  try simp only [Act.put, List.setIfInBounds_toArray, List.set_cons_zero, List.set_cons_succ]
                  refine held_take (i := 18) (v := ?_) rfl (by kernel_rfl) (by kernel_rfl) (by kernel_rfl) (fun _ _ _ h => h) (by rfl) (fun w hSw => ?_) (by assumption) ?_; rotate_left 1; focus (((try dsimp only at hSw); first | (go_simp; done) | (go_simp; with_reducible rfl)))
                  try simp only [Act.put, List.setIfInBounds_toArray, List.set_cons_zero, List.set_cons_succ]
                  refine held_take (i := 19) (v := ?_) rfl (by kernel_rfl) (by kernel_rfl) (by kernel_rfl) (fun _ _ _ h => h) (by rfl) (fun w hSw => ?_) (by assumption) ?_; rotate_left 1; focus (((try dsimp only at hSw); first | (go_simp; done) | (go_simp; with_reducible rfl)))
                  try simp only [Act.put, List.setIfInBounds_toArray, List.set_cons_zero, List.set_cons_succ]
                  refine held_take (i := 20) (v := ?_) rfl (by kernel_rfl) (by kernel_rfl) (by kernel_rfl) (fun _ _ _ h => h) (by rfl) (fun w hSw => ?_) (by assumption) ?_; rotate_left 1; focus (((try dsimp only at hSw); first | (go_simp; done) | (go_simp; with_reducible rfl)))
                  try simp only [Act.put, List.setIfInBounds_toArray, List.set_cons_zero, List.set_cons_succ]
                  refine held_take (i := 21) (v := ?_) rfl (by kernel_rfl) (by kernel_rfl) (by kernel_rfl) (fun _ _ _ h => h) (by rfl) (fun w hSw => ?_) (by assumption) ?_; rotate_left 1; focus (((try dsimp only at hSw); first | (go_simp; done) | (go_simp; with_reducible rfl)))
                  try simp only [Act.put, List.setIfInBounds_toArray, List.set_cons_zero, List.set_cons_succ]
                  refine held_take (i := 22) (v := ?_) rfl (by kernel_rfl) (by kernel_rfl) (by kernel_rfl) (fun _ _ _ h => h) (by rfl) (fun w hSw => ?_) (by assumption) ?_; rotate_left 1; focus (((try dsimp only at hSw); first | (go_simp; done) | (go_simp; with_reducible rfl)))
                  try simp only [Act.put, List.setIfInBounds_toArray, List.set_cons_zero, List.set_cons_succ]
                  refine held_take (i := 23) (v := ?_) rfl (by kernel_rfl) (by kernel_rfl) (by kernel_rfl) (fun _ _ _ h => h) (by rfl) (fun w hSw => ?_) (by assumption) ?_; rotate_left 1; focus (((try dsimp only at hSw); first | (go_simp; done) | (go_simp; with_reducible rfl)))
                  try simp only [Act.put, List.setIfInBounds_toArray, List.set_cons_zero, List.set_cons_succ]
                  refine held_take (i := 24) (v := ?_) rfl (by kernel_rfl) (by kernel_rfl) (by kernel_rfl) (fun _ _ _ h => h) (by rfl) (fun w hSw => ?_) (by assumption) ?_; rotate_left 1; focus (((try dsimp only at hSw); first | (go_simp; done) | (go_simp; with_reducible rfl)))
                  try simp only [Act.put, List.setIfInBounds_toArray, List.set_cons_zero, List.set_cons_succ]
                  refine held_take (i := 25) (v := ?_) rfl (by kernel_rfl) (by kernel_rfl) (by kernel_rfl) (fun _ _ _ h => h) (by rfl) (fun w hSw => ?_) (by assumption) ?_; rotate_left 1; focus (((try dsimp only at hSw); first | (go_simp; done) | (go_simp; with_reducible rfl)))
                  try simp only [Act.put, List.setIfInBounds_toArray, List.set_cons_zero, List.set_cons_succ]
                  refine wpAnyH_done (by kernel_rfl) ?_ _
                  clear f2 f3 VC hkeep mm0 hJ
                  obtain ⟨S, hS⟩ := I3.out.seen
                  obtain ⟨sa, sc, sb, he, hSl, hSB, hSn⟩ := sl_of_rowG (cells := cellsQ) (fun _ => rfl) hS.len hS.row
                  cases he
                  have hSlen := Lib.hid hS.len
                  replace hS := Lib.hid hS
                  have sm : p3 ≤ 9223372036854775807 := hSl.most
                  have sq : n0 + k ≤ p3 := hSl.cap
                  replace hSl := Lib.hid hSl
                  go_wp2_with fail
                  go_loopw [7] (fun jj wr => ∃ m : Nat, m ≤ n0 + k ∧ jj = .int .i64 (m : Int) ∧ Hid (AllTo (fun y : Nat => y ≠ x.num) S m) ∧ Hid (Below w3.heap.size w3 wr)) (fun jj _ => n0 + k - (intOf jj).toNat)
                  case atStart => exact ⟨0, Nat.zero_le _, rfl, Lib.hid AllTo.zero, Lib.hid (Below.refl _ _)⟩
                  case round =>
                    obtain ⟨m, hm, rfl, hne, hz⟩ := hrel
                    obtain ⟨⟨c0, c1, c2, c3, c4, c5, c6⟩, d1, d2⟩ := m3.out
                    replace c0 := cell_keep hz.out c0
                    clear c1 c2 c3 c4 c5 c6 d1 d2
                    by_cases hmn : m < n0 + k
                    · obtain ⟨y, hy⟩ : ∃ y, S[m]? = some y := ⟨_, List.getElem?_eq_getElem (by rw [hSlen.out]; exact hmn)⟩
                      obtain ⟨rfl, hsb⟩ := hSl.out.addr (show 0 < n0 + k by omega)
                      have s0 := cell_keep hz.out (hSl.out.at' m y hy 0 _ rfl)
                      rw [Nat.zero_add, Nat.mul_one, Nat.add_zero] at s0
                      have g0 : (m : Int) < ((n0 + k : Nat) : Int) := by omega
                      have g1 : (0 : Int) ≤ (m : Int) := by omega
                      replace hy := Lib.hid hy
                      by_cases heq : y = x.num
                      · have f4 : ((y : Int) == (x.num : Int)) = true := by rw [beq_iff_eq]; omega
                        have hF : Hid (T = false) := Lib.hid (hnoN.out ((hS.out.mem _).1 (by rw [← heq]; exact List.mem_of_getElem? hy.out)))
                        clear heq
                        go_upto_region 18 with fail
                        go_quiet (fail)
                        go_wp2_with fail
                        go_returns
                        exact ⟨by rw [hF.out]; rfl, (below_of I3.out.bel hz.out).trans (below_drewN (Below.refl _ _))⟩
                      · have f4 : ((y : Int) == (x.num : Int)) = false := by rw [beq_eq_false_iff_ne]; omega
                        have hne2 := Lib.hid (hne.out.succ hy.out heq)
                        clear heq
                        go_upto_region 18 with fail
                        go_quiet (fail)
                        go_wp2_with fail
                        go_roundw
                        case rel => exact ⟨m + 1, by omega, by go_num, hne2, Lib.hid (below_drewN hz.out)⟩
                        case measure => simp [intOf]; omega
                    · have g0 : ¬ (m : Int) < ((n0 + k : Nat) : Int) := by omega
                      obtain rfl : m = n0 + k := by omega
                      have hnin : Hid (x.num ∉ ((v.lv j).take k).map Mt.num ++ numsTo v j) := Lib.hid (fun h => hne.out.all hSlen.out _ ((hS.out.mem _).2 h) rfl)
                      have Bw : Hid (Below w.heap.size w wr) := Lib.hid (below_of I3.out.bel hz.out)
                      have Rw := Lib.hid (ownsRow_stays hS.out.row (Stays.of_below hz.out))
                      have hb1 : n0 + k ≤ 1000 := by have := hi.out.2; omega
                      have z3 : Hid (w.heap.size + 1 ≤ wr.heap.size) := Lib.hid (Nat.succ_le_of_lt ((I3.out.ver.below hz.out).lt))
                      have zB : Hid (w.heap.size + 1 ≤ (wr.alloc (.cells #[.int .u64 (x.num : Int)] 22)).heap.size) := Lib.hid (by rw [World.size_alloc]; have := z3.out; omega)
                      have FA : Hid (∀ v5 w5, w5.ownsRow (w.heap.size + 1) 22 1 v5 (n0 + k + 1) (S.flatMap cellsQ ++ [.int .u64 (x.num : Int)]) → (wr.alloc (.cells #[.int .u64 (x.num : Int)] 22)).grownBy w5 (Value.ownBlock (.slice p1 (n0 + k) p3)) → ∃ s1 s3, v5 = .slice s1 (n0 + k + 1) s3 ∧ RfI v H j (n0 + (k + 1)) (((v.lv j).take (k + 1)).map Mt.num ++ numsTo v j) (.slice s1 (n0 + k + 1) s3) w w5) := Lib.hid (fun v5 w5 hown hgrow => by
                        have hrow : w5.ownsRow (w.heap.size + 1) 22 1 v5 (n0 + k + 1) ((S ++ [x.num]).flatMap cellsQ) := by rw [rowG_snoc]; exact hown
                        have hl2 : (S ++ [x.num]).length = n0 + k + 1 := by rw [List.length_append, hSlen.out]; rfl
                        obtain ⟨s1, s3, sb2, rfl, _⟩ := sl_of_rowG (cells := cellsQ) (fun _ => rfl) hl2 hrow
                        have hlt2 := fun q (hq : Value.ownBlock (.slice p1 (n0 + k) p3) = some q) => (World.ownsRow.lt Rw.out q hq).1
                        refine ⟨s1, s3, rfl, ⟨((Bw.out).alloc Bw.out.size _).grown hgrow (by rw [World.size_alloc]; have := Bw.out.size; omega) (fun q hq => by have := hlt2 q hq; omega), ?_, I3.out.lev, by have := hi.out.2; omega, ⟨_, hrow, hl2, mem_take_succ hx.out hS.out.mem⟩⟩⟩
                        have hv := (I3.out.ver.below hz.out).below (below_alloc wr (.cells #[.int .u64 (x.num : Int)] 22))
                        exact (hgrow.block _ hv.lt (fun e => by have := hlt2 _ e.symm; omega)).trans hv)
                      go_upto_region 21 with (at_builtin; (refine wpList_append_own _ rfl _ _ 63 rfl (w.heap.size + 1) 22 ti (.int .u64 0) 1 8 Try.underlying63 hi0 hy0 hy1 hy2 rfl (by decide) _ (n0 + k) (S.flatMap cellsQ) rfl (Rw.out.alloc _) ⟨wr.heap.size, 0, none⟩ 1 1 [.int .u64 (x.num : Int)] rfl rfl (World.news_of_block (heap_alloc_new _ _)) (by simp [Value.oneCell']) (app_b8 _ hb1).1 (app_b8 _ hb1).2 zB.out ?_); intro v5 w5 hown5 hgrow5 _; obtain ⟨s1, s3, rfl, hf5⟩ := FA.out _ _ hown5 hgrow5; have F5 := Lib.hid hf5; clear hown5 hgrow5 hf5)
                      by_cases hk0 : k = 0
                      · subst hk0
                        have hto2 := Lib.hid (hto.out.succ hx.out hEl.out hnin.out (fun y h0 => absurd h0 (by omega)))
                        have F6 := Lib.hid (fun q => F5.out.below (below_drewN (n := q) (Below.refl _ _)))
                        go_quiet (fail)
                        go_wp2_with fail
                        go_roundw
                        case rel => exact ⟨0 + 1, s1, s3, by omega, by go_num, rfl, Lib.hid (F6.out _), hto2⟩
                        case measure => simp [intOf]; omega
                      · obtain ⟨m, rfl⟩ : ∃ m, k = m + 1 := ⟨k - 1, by omega⟩
                        obtain ⟨y, hy, _, _, y0, y1, y2, y3, y4, y5, y6⟩ := (Mall.out _ F5.out.bel).at7x (show m < n by omega)
                        obtain ⟨x', hx', _, _, x0, x1, x2, x3, x4, x5, x6⟩ := (Mall.out _ F5.out.bel).at7x hkn
                        obtain rfl : x' = x := by have := hx.out; rw [hx'] at this; exact Option.some.inj this
                        have F6 := Lib.hid (fun q => F5.out.below (below_drewN (n := q) (Below.refl _ _)))
                        have hne3 : Hid (y.num ≠ x'.num) := Lib.hid (fun e => hnin.out (by
                          rw [← e]
                          refine List.mem_append_left _ (List.mem_map.2 ⟨y, ?_, rfl⟩)
                          exact List.mem_of_getElem? (show ((v.lv j).take (m + 1))[m]? = some y by rw [List.getElem?_take, if_pos (by omega)]; exact hy)))
                        have hbad : Hid (¬ ordP (j == 0) y x' → T = false) := Lib.hid (fun h => hno.out (lv_no_ord hy hx' h))
                        have hgood : Hid (ordP (j == 0) y x' → LvTo v j (m + 1 + 1)) := Lib.hid (fun h => hto.out.succ hx' hEl.out hnin.out (fun z _ hz2 => by
                          rw [Nat.add_sub_cancel, hy] at hz2; cases hz2; exact h))
                        have mm5 : Hid (w5.cell? ⟨b, o + m * 7, none⟩ = some (.int .u64 (y.num : Int)) ∧ w5.cell? ⟨b, o + m * 7 + 4, none⟩ = some (.string y.lst) ∧ w5.cell? ⟨b, o + (m + 1) * 7, none⟩ = some (.int .u64 (x'.num : Int)) ∧ w5.cell? ⟨b, o + (m + 1) * 7 + 3, none⟩ = some (.string x'.fst)) := Lib.hid ⟨y0, y4, x0, x3⟩
                        have f5 : (0 : Int) < (m : Int) + 1 := by omega
                        have f5b : decide ((0 : Int) < (m : Int) + 1) = true := decide_eq_true f5
                        have k0 : (m : Int) + 1 < (n : Int) := by omega
                        have k1 : (m : Int) < (n : Int) := by omega
                        have k2 : (0 : Int) ≤ (m : Int) + 1 := by omega
                        have k3 : m < n := by omega
                        obtain ⟨wr1, wr2, wr3, wr4, wr5⟩ := wr_all m (by omega)
                        clear hx' hy y0 y1 y2 y3 y4 y5 y6 x0 x1 x2 x3 x4 x5 x6 hk0 hkn j0 j1
                        by_cases hj0 : j = 0
                        · have f6 : ((j : Int) == 0) = true := by rw [beq_iff_eq]; omega
                          have f7 : ¬ (0 : Int) < (j : Int) := by omega
                          have f7n : ¬ 0 < j := by omega
                          have f7d : decide (0 < j) = false := decide_eq_false f7n
                          have hjb : (j == 0) = true := by rw [hj0]; rfl
                          rw [hjb] at hbad hgood
                          by_cases ho : x'.num < y.num
                          · have f8 : (x'.num : Int) < (y.num : Int) := by omega
                            have hF := Lib.hid (hbad.out (fun h => by unfold ordP at h; rw [if_pos rfl] at h; omega))
                            clear ho hbad hgood hjb hj0
                            obtain ⟨y0, y4, x0, x3⟩ := mm5.out
                            go_quiet (fail)
                            clear wr1 wr2 wr3 wr4 wr5 f5 f5b f6 f7 f7n f7d mm5 y0 y4 x0 x3
                            go_wp2_with fail
                            go_returns
                            exact ⟨by rw [hF.out]; rfl, (F6.out _).bel⟩
                          · have f8 : ¬ (x'.num : Int) < (y.num : Int) := by omega
                            have hto2 := Lib.hid (hgood.out (by unfold ordP; rw [if_pos rfl]; have := hne3.out; omega))
                            clear ho hbad hgood hjb hj0
                            obtain ⟨y0, y4, x0, x3⟩ := mm5.out
                            go_quiet (fail)
                            clear wr1 wr2 wr3 wr4 wr5 f5 f5b f6 f7 f7n f7d mm5 y0 y4 x0 x3
                            go_wp2_with fail
                            go_roundw
                            case rel => exact ⟨m + 1 + 1, s1, s3, by omega, by go_num, rfl, Lib.hid (F6.out _), hto2⟩
                            case measure => simp [intOf]; omega
                        · have f6 : ((j : Int) == 0) = false := by rw [beq_eq_false_iff_ne]; omega
                          have f7 : (0 : Int) < (j : Int) := by omega
                          have f7n : 0 < j := by omega
                          have f7d : decide (0 < j) = true := decide_eq_true f7n
                          have hjb : (j == 0) = false := by rw [beq_eq_false_iff_ne]; exact hj0
                          rw [hjb] at hbad hgood
                          by_cases ho : Op.bytesLess y.lst.toList x'.fst.toList = true
                          · have GE := geq_str y.lst x'.fst false (by rw [ho]; rfl)
                            have hto2 := Lib.hid (hgood.out (by unfold ordP; rw [if_neg (by simp)]; exact ho))
                            clear ho hbad hgood hjb hj0
                            obtain ⟨y0, y4, x0, x3⟩ := mm5.out
                            go_quiet (fail)
                            clear wr1 wr2 wr3 wr4 wr5 f5 f5b f6 f7 f7n f7d mm5 y0 y4 x0 x3
                            go_wp2_with fail
                            go_roundw
                            case rel => exact ⟨m + 1 + 1, s1, s3, by omega, by go_num, rfl, Lib.hid (F6.out _), hto2⟩
                            case measure => simp [intOf]; omega
                          · have GE := geq_str y.lst x'.fst true (by rw [Bool.not_eq_true] at ho; rw [ho]; rfl)
                            have hF := Lib.hid (hbad.out (fun h => by unfold ordP at h; rw [if_neg (by simp)] at h; exact ho h))
                            clear ho hbad hgood hjb hj0
                            obtain ⟨y0, y4, x0, x3⟩ := mm5.out
                            go_quiet (fail)
                            clear wr1 wr2 wr3 wr4 wr5 f5 f5b f6 f7 f7n f7d mm5 y0 y4 x0 x3
                            go_wp2_with fail
                            go_returns
                            exact ⟨by rw [hF.out]; rfl, (F6.out _).bel⟩
                · have f3 : decide (v.seq < x.gr) = true := decide_eq_true (by omega)
                  have hF : Hid (T = false) := Lib.hid (hnoE.out (fun h => e3 h.2.2))
                  clear e1 e2 e3
                  go_upto_region 13 with fail
                  refine wp_region_held_drew (S := (fun u => (u.cell? ⟨b, o + k * 7, none⟩ = some (.int .u64 (x.num : Int)) ∧ u.cell? ⟨b, o + k * 7 + 1, none⟩ = some (.int .i64 x.size) ∧ u.cell? ⟨b, o + k * 7 + 2, none⟩ = some (.int .i64 x.rows) ∧ u.cell? ⟨b, o + k * 7 + 3, none⟩ = some (.string x.fst) ∧ u.cell? ⟨b, o + k * 7 + 4, none⟩ = some (.string x.lst) ∧ u.cell? ⟨b, o + k * 7 + 5, none⟩ = some (.int .u64 (x.least : Int)) ∧ u.cell? ⟨b, o + k * 7 + 6, none⟩ = some (.int .u64 (x.gr : Int))) ∧ u.cell? ⟨w.heap.size, 1, none⟩ = some (.int .u64 (v.next : Int)) ∧ u.cell? ⟨w.heap.size, 2, none⟩ = some (.int .u64 (v.seq : Int)))) (by kernel_rfl) (mm0.out) (fun hHeld => ?_)
                  refine held_take (i := 0) (v := ?_) rfl (by kernel_rfl) (by kernel_rfl) (by kernel_rfl) (fun _ _ _ h => h) (by rfl) (fun w hSw => ?_) (by assumption) ?_; rotate_left 1; focus (((try dsimp only at hSw); first | (go_simp; done) | (go_simp; with_reducible rfl)))
                  try simp only [Act.put, List.setIfInBounds_toArray, List.set_cons_zero, List.set_cons_succ]
                  refine held_take (i := 1) (v := ?_) rfl (by kernel_rfl) (by kernel_rfl) (by kernel_rfl) (fun _ _ _ h => h) (by rfl) (fun w hSw => ?_) (by assumption) ?_; rotate_left 1; focus (((try dsimp only at hSw); first | (go_simp; done) | (go_simp; with_reducible rfl)))
                  try simp only [Act.put, List.setIfInBounds_toArray, List.set_cons_zero, List.set_cons_succ]
                  refine held_take (i := 2) (v := ?_) rfl (by kernel_rfl) (by kernel_rfl) (by kernel_rfl) (fun _ _ _ h => h) (by rfl) (fun w hSw => ?_) (by assumption) ?_; rotate_left 1; focus (((try dsimp only at hSw); first | (go_simp; done) | (go_simp; with_reducible rfl)))
                  try simp only [Act.put, List.setIfInBounds_toArray, List.set_cons_zero, List.set_cons_succ]
                  refine held_take (i := 3) (v := ?_) rfl (by kernel_rfl) (by kernel_rfl) (by kernel_rfl) (fun _ _ _ h => h) (by rfl) (fun w hSw => ?_) (by assumption) ?_; rotate_left 1; focus (((try dsimp only at hSw); first | (go_simp; done) | (go_simp; with_reducible rfl)))
                  try simp only [Act.put, List.setIfInBounds_toArray, List.set_cons_zero, List.set_cons_succ]
                  refine held_call (i := 4) (by kernel_rfl) rfl (by rfl) (fun K hK => ?_)
                  go_simp
                  (go_at_call 44; ((with_reducible refine (VC.out _).mono ?_); rintro e w3 ⟨rfl, hb3⟩))
                  have m3 := Lib.hid (hkeep.out _ hb3)
                  have I3 := Lib.hid (hJ.out.below hb3)
                  clear hb3
                  refine hK.out _ _ (m3.out) (fun hHeld => ?_)
                  try simp only [Act.put, List.setIfInBounds_toArray, List.set_cons_zero, List.set_cons_succ]
                  refine held_take (i := 5) (v := ?_) rfl (by kernel_rfl) (by kernel_rfl) (by kernel_rfl) (fun _ _ _ h => h) (by rfl) (fun w hSw => ?_) (by assumption) ?_; rotate_left 1; focus (((try dsimp only at hSw); first | (go_simp; done) | (go_simp; with_reducible rfl)))
                  try simp only [Act.put, List.setIfInBounds_toArray, List.set_cons_zero, List.set_cons_succ]
                  refine held_take (i := 6) (v := ?_) rfl (by kernel_rfl) (by kernel_rfl) (by kernel_rfl) (fun _ _ _ h => h) (by rfl) (fun w hSw => ?_) (by assumption) ?_; rotate_left 1; focus (((try dsimp only at hSw); first | (go_simp; done) | (go_simp; with_reducible rfl)))
                  try simp only [Act.put, List.setIfInBounds_toArray, List.set_cons_zero, List.set_cons_succ]
                  refine held_take (i := 7) (v := ?_) rfl (by kernel_rfl) (by kernel_rfl) (by kernel_rfl) (fun _ _ _ h => h) (by rfl) (fun w hSw => ?_) (by assumption) ?_; rotate_left 1; focus (((try dsimp only at hSw); first | (go_simp; done) | (go_simp; with_reducible rfl)))
                  try simp only [Act.put, List.setIfInBounds_toArray, List.set_cons_zero, List.set_cons_succ]
                  refine held_take (i := 8) (v := ?_) rfl (by kernel_rfl) (by kernel_rfl) (by kernel_rfl) (fun _ _ _ h => h) (by rfl) (fun w hSw => ?_) (by assumption) ?_; rotate_left 1; focus (((try dsimp only at hSw); first | (go_simp; done) | (go_simp; with_reducible rfl)))
                  try simp only [Act.put, List.setIfInBounds_toArray, List.set_cons_zero, List.set_cons_succ]
                  refine held_take (i := 9) (v := ?_) rfl (by kernel_rfl) (by kernel_rfl) (by kernel_rfl) (fun _ _ _ h => h) (by rfl) (fun w hSw => ?_) (by assumption) ?_; rotate_left 1; focus (((try dsimp only at hSw); first | (go_simp; done) | (go_simp; with_reducible rfl)))
                  try simp only [Act.put, List.setIfInBounds_toArray, List.set_cons_zero, List.set_cons_succ]
                  refine held_take (i := 10) (v := ?_) rfl (by kernel_rfl) (by kernel_rfl) (by kernel_rfl) (fun _ _ _ h => h) (by rfl) (fun w hSw => ?_) (by assumption) ?_; rotate_left 1; focus (((try dsimp only at hSw); first | (go_simp; done) | (go_simp; with_reducible rfl)))
                  try simp only [Act.put, List.setIfInBounds_toArray, List.set_cons_zero, List.set_cons_succ]
                  refine held_take (i := 11) (v := ?_) rfl (by kernel_rfl) (by kernel_rfl) (by kernel_rfl) (fun _ _ _ h => h) (by rfl) (fun w hSw => ?_) (by assumption) ?_; rotate_left 1; focus (((try dsimp only at hSw); first | (go_simp; done) | (go_simp; with_reducible rfl)))
                  try simp only [Act.put, List.setIfInBounds_toArray, List.set_cons_zero, List.set_cons_succ]
                  refine held_take (i := 12) (v := ?_) rfl (by kernel_rfl) (by kernel_rfl) (by kernel_rfl) (fun _ _ _ h => h) (by rfl) (fun w hSw => ?_) (by assumption) ?_; rotate_left 1; focus (((try dsimp only at hSw); first | (go_simp; done) | (go_simp; with_reducible rfl)))
                  try simp only [Act.put, List.setIfInBounds_toArray, List.set_cons_zero, List.set_cons_succ]
                  refine held_take (i := 13) (v := ?_) rfl (by kernel_rfl) (by kernel_rfl) (by kernel_rfl) (fun _ _ _ h => h) (by rfl) (fun w hSw => ?_) (by assumption) ?_; rotate_left 1; focus (((try dsimp only at hSw); first | (go_simp; done) | (go_simp; with_reducible rfl)))
                  try simp only [Act.put, List.setIfInBounds_toArray, List.set_cons_zero, List.set_cons_succ]
                  refine held_take (i := 14) (v := ?_) rfl (by kernel_rfl) (by kernel_rfl) (by kernel_rfl) (fun _ _ _ h => h) (by rfl) (fun w hSw => ?_) (by assumption) ?_; rotate_left 1; focus (((try dsimp only at hSw); first | (go_simp; done) | (go_simp; with_reducible rfl)))
                  try simp only [Act.put, List.setIfInBounds_toArray, List.set_cons_zero, List.set_cons_succ]
                  refine held_take (i := 15) (v := ?_) rfl (by kernel_rfl) (by kernel_rfl) (by kernel_rfl) (fun _ _ _ h => h) (by rfl) (fun w hSw => ?_) (by assumption) ?_; rotate_left 1; focus (((try dsimp only at hSw); first | (go_simp; done) | (go_simp; with_reducible rfl)))
                  try simp only [Act.put, List.setIfInBounds_toArray, List.set_cons_zero, List.set_cons_succ]
                  refine held_take (i := 16) (v := ?_) rfl (by kernel_rfl) (by kernel_rfl) (by kernel_rfl) (fun _ _ _ h => h) (by rfl) (fun w hSw => ?_) (by assumption) ?_; rotate_left 1; focus (((try dsimp only at hSw); first | (go_simp; done) | (go_simp; with_reducible rfl)))
                  try simp only [Act.put, List.setIfInBounds_toArray, List.set_cons_zero, List.set_cons_succ]
                  refine held_take (i := 17) (v := ?_) rfl (by kernel_rfl) (by kernel_rfl) (by kernel_rfl) (fun _ _ _ h => h) (by rfl) (fun w hSw => ?_) (by assumption) ?_; rotate_left 1; focus (((try dsimp only at hSw); first | (go_simp; done) | (go_simp; with_reducible rfl)))
                  try simp only [Act.put, List.setIfInBounds_toArray, List.set_cons_zero, List.set_cons_succ]
                  refine held_take (i := 18) (v := ?_) rfl (by kernel_rfl) (by kernel_rfl) (by kernel_rfl) (fun _ _ _ h => h) (by rfl) (fun w hSw => ?_) (by assumption) ?_; rotate_left 1; focus (((try dsimp only at hSw); first | (go_simp; done) | (go_simp; with_reducible rfl)))
                  try simp only [Act.put, List.setIfInBounds_toArray, List.set_cons_zero, List.set_cons_succ]
                  refine held_take (i := 19) (v := ?_) rfl (by kernel_rfl) (by kernel_rfl) (by kernel_rfl) (fun _ _ _ h => h) (by rfl) (fun w hSw => ?_) (by assumption) ?_; rotate_left 1; focus (((try dsimp only at hSw); first | (go_simp; done) | (go_simp; with_reducible rfl)))
                  try simp only [Act.put, List.setIfInBounds_toArray, List.set_cons_zero, List.set_cons_succ]
                  refine held_take (i := 20) (v := ?_) rfl (by kernel_rfl) (by kernel_rfl) (by kernel_rfl) (fun _ _ _ h => h) (by rfl) (fun w hSw => ?_) (by assumption) ?_; rotate_left 1; focus (((try dsimp only at hSw); first | (go_simp; done) | (go_simp; with_reducible rfl)))
                  try simp only [Act.put, List.setIfInBounds_toArray, List.set_cons_zero, List.set_cons_succ]
                  refine held_take (i := 21) (v := ?_) rfl (by kernel_rfl) (by kernel_rfl) (by kernel_rfl) (fun _ _ _ h => h) (by rfl) (fun w hSw => ?_) (by assumption) ?_; rotate_left 1; focus (((try dsimp only at hSw); first | (go_simp; done) | (go_simp; with_reducible rfl)))
                  try simp only [Act.put, List.setIfInBounds_toArray, List.set_cons_zero, List.set_cons_succ]
                  refine held_take (i := 22) (v := ?_) rfl (by kernel_rfl) (by kernel_rfl) (by kernel_rfl) (fun _ _ _ h => h) (by rfl) (fun w hSw => ?_) (by assumption) ?_; rotate_left 1; focus (((try dsimp only at hSw); first | (go_simp; done) | (go_simp; with_reducible rfl)))
                  try simp only [Act.put, List.setIfInBounds_toArray, List.set_cons_zero, List.set_cons_succ]
                  refine held_take (i := 23) (v := ?_) rfl (by kernel_rfl) (by kernel_rfl) (by kernel_rfl) (fun _ _ _ h => h) (by rfl) (fun w hSw => ?_) (by assumption) ?_; rotate_left 1; focus (((try dsimp only at hSw); first | (go_simp; done) | (go_simp; with_reducible rfl)))
                  try simp only [Act.put, List.setIfInBounds_toArray, List.set_cons_zero, List.set_cons_succ]
                  refine held_take (i := 24) (v := ?_) rfl (by kernel_rfl) (by kernel_rfl) (by kernel_rfl) (fun _ _ _ h => h) (by rfl) (fun w hSw => ?_) (by assumption) ?_; rotate_left 1; focus (((try dsimp only at hSw); first | (go_simp; done) | (go_simp; with_reducible rfl)))
                  try simp only [Act.put, List.setIfInBounds_toArray, List.set_cons_zero, List.set_cons_succ]
                  refine held_take (i := 25) (v := ?_) rfl (by kernel_rfl) (by kernel_rfl) (by kernel_rfl) (fun _ _ _ h => h) (by rfl) (fun w hSw => ?_) (by assumption) ?_; rotate_left 1; focus (((try dsimp only at hSw); first | (go_simp; done) | (go_simp; with_reducible rfl)))
                  try simp only [Act.put, List.setIfInBounds_toArray, List.set_cons_zero, List.set_cons_succ]
                  refine wpAnyH_done (by kernel_rfl) ?_ _
                  go_wp2_with fail
                  go_returns
                  exact ⟨by rw [hF.out]; rfl, I3.out.bel⟩
              · have f2 : decide (v.next ≤ x.num) = true := decide_eq_true (by omega)
                have hF : Hid (T = false) := Lib.hid (hnoE.out (fun h => e2 h.2.1))
                clear e1 e2
                go_upto_region 13 with fail
                refine wp_region_held_drew (S := (fun u => (u.cell? ⟨b, o + k * 7, none⟩ = some (.int .u64 (x.num : Int)) ∧ u.cell? ⟨b, o + k * 7 + 1, none⟩ = some (.int .i64 x.size) ∧ u.cell? ⟨b, o + k * 7 + 2, none⟩ = some (.int .i64 x.rows) ∧ u.cell? ⟨b, o + k * 7 + 3, none⟩ = some (.string x.fst) ∧ u.cell? ⟨b, o + k * 7 + 4, none⟩ = some (.string x.lst) ∧ u.cell? ⟨b, o + k * 7 + 5, none⟩ = some (.int .u64 (x.least : Int)) ∧ u.cell? ⟨b, o + k * 7 + 6, none⟩ = some (.int .u64 (x.gr : Int))) ∧ u.cell? ⟨w.heap.size, 1, none⟩ = some (.int .u64 (v.next : Int)) ∧ u.cell? ⟨w.heap.size, 2, none⟩ = some (.int .u64 (v.seq : Int)))) (by kernel_rfl) (mm0.out) (fun hHeld => ?_)
                refine held_take (i := 0) (v := ?_) rfl (by kernel_rfl) (by kernel_rfl) (by kernel_rfl) (fun _ _ _ h => h) (by rfl) (fun w hSw => ?_) (by assumption) ?_; rotate_left 1; focus (((try dsimp only at hSw); first | (go_simp; done) | (go_simp; with_reducible rfl)))
                try simp only [Act.put, List.setIfInBounds_toArray, List.set_cons_zero, List.set_cons_succ]
                refine held_take (i := 1) (v := ?_) rfl (by kernel_rfl) (by kernel_rfl) (by kernel_rfl) (fun _ _ _ h => h) (by rfl) (fun w hSw => ?_) (by assumption) ?_; rotate_left 1; focus (((try dsimp only at hSw); first | (go_simp; done) | (go_simp; with_reducible rfl)))
                try simp only [Act.put, List.setIfInBounds_toArray, List.set_cons_zero, List.set_cons_succ]
                refine held_take (i := 2) (v := ?_) rfl (by kernel_rfl) (by kernel_rfl) (by kernel_rfl) (fun _ _ _ h => h) (by rfl) (fun w hSw => ?_) (by assumption) ?_; rotate_left 1; focus (((try dsimp only at hSw); first | (go_simp; done) | (go_simp; with_reducible rfl)))
                try simp only [Act.put, List.setIfInBounds_toArray, List.set_cons_zero, List.set_cons_succ]
                refine held_take (i := 3) (v := ?_) rfl (by kernel_rfl) (by kernel_rfl) (by kernel_rfl) (fun _ _ _ h => h) (by rfl) (fun w hSw => ?_) (by assumption) ?_; rotate_left 1; focus (((try dsimp only at hSw); first | (go_simp; done) | (go_simp; with_reducible rfl)))
                try simp only [Act.put, List.setIfInBounds_toArray, List.set_cons_zero, List.set_cons_succ]
                refine held_call (i := 4) (by kernel_rfl) rfl (by rfl) (fun K hK => ?_)
                go_simp
                (go_at_call 44; ((with_reducible refine (VC.out _).mono ?_); rintro e w3 ⟨rfl, hb3⟩))
                have m3 := Lib.hid (hkeep.out _ hb3)
                have I3 := Lib.hid (hJ.out.below hb3)
                clear hb3
                refine hK.out _ _ (m3.out) (fun hHeld => ?_)
                try simp only [Act.put, List.setIfInBounds_toArray, List.set_cons_zero, List.set_cons_succ]
                refine held_take (i := 5) (v := ?_) rfl (by kernel_rfl) (by kernel_rfl) (by kernel_rfl) (fun _ _ _ h => h) (by rfl) (fun w hSw => ?_) (by assumption) ?_; rotate_left 1; focus (((try dsimp only at hSw); first | (go_simp; done) | (go_simp; with_reducible rfl)))
                try simp only [Act.put, List.setIfInBounds_toArray, List.set_cons_zero, List.set_cons_succ]
                refine held_take (i := 6) (v := ?_) rfl (by kernel_rfl) (by kernel_rfl) (by kernel_rfl) (fun _ _ _ h => h) (by rfl) (fun w hSw => ?_) (by assumption) ?_; rotate_left 1; focus (((try dsimp only at hSw); first | (go_simp; done) | (go_simp; with_reducible rfl)))
                try simp only [Act.put, List.setIfInBounds_toArray, List.set_cons_zero, List.set_cons_succ]
                refine held_take (i := 7) (v := ?_) rfl (by kernel_rfl) (by kernel_rfl) (by kernel_rfl) (fun _ _ _ h => h) (by rfl) (fun w hSw => ?_) (by assumption) ?_; rotate_left 1; focus (((try dsimp only at hSw); first | (go_simp; done) | (go_simp; with_reducible rfl)))
                try simp only [Act.put, List.setIfInBounds_toArray, List.set_cons_zero, List.set_cons_succ]
                refine held_take (i := 8) (v := ?_) rfl (by kernel_rfl) (by kernel_rfl) (by kernel_rfl) (fun _ _ _ h => h) (by rfl) (fun w hSw => ?_) (by assumption) ?_; rotate_left 1; focus (((try dsimp only at hSw); first | (go_simp; done) | (go_simp; with_reducible rfl)))
                try simp only [Act.put, List.setIfInBounds_toArray, List.set_cons_zero, List.set_cons_succ]
                refine held_take (i := 9) (v := ?_) rfl (by kernel_rfl) (by kernel_rfl) (by kernel_rfl) (fun _ _ _ h => h) (by rfl) (fun w hSw => ?_) (by assumption) ?_; rotate_left 1; focus (((try dsimp only at hSw); first | (go_simp; done) | (go_simp; with_reducible rfl)))
                try simp only [Act.put, List.setIfInBounds_toArray, List.set_cons_zero, List.set_cons_succ]
                refine held_take (i := 10) (v := ?_) rfl (by kernel_rfl) (by kernel_rfl) (by kernel_rfl) (fun _ _ _ h => h) (by rfl) (fun w hSw => ?_) (by assumption) ?_; rotate_left 1; focus (((try dsimp only at hSw); first | (go_simp; done) | (go_simp; with_reducible rfl)))
                try simp only [Act.put, List.setIfInBounds_toArray, List.set_cons_zero, List.set_cons_succ]
                refine held_take (i := 11) (v := ?_) rfl (by kernel_rfl) (by kernel_rfl) (by kernel_rfl) (fun _ _ _ h => h) (by rfl) (fun w hSw => ?_) (by assumption) ?_; rotate_left 1; focus (((try dsimp only at hSw); first | (go_simp; done) | (go_simp; with_reducible rfl)))
                try simp only [Act.put, List.setIfInBounds_toArray, List.set_cons_zero, List.set_cons_succ]
                refine held_take (i := 12) (v := ?_) rfl (by kernel_rfl) (by kernel_rfl) (by kernel_rfl) (fun _ _ _ h => h) (by rfl) (fun w hSw => ?_) (by assumption) ?_; rotate_left 1; focus (((try dsimp only at hSw); first | (go_simp; done) | (go_simp; with_reducible rfl)))
                try simp only [Act.put, List.setIfInBounds_toArray, List.set_cons_zero, List.set_cons_succ]
                refine held_take (i := 13) (v := ?_) rfl (by kernel_rfl) (by kernel_rfl) (by kernel_rfl) (fun _ _ _ h => h) (by rfl) (fun w hSw => ?_) (by assumption) ?_; rotate_left 1; focus (((try dsimp only at hSw); first | (go_simp; done) | (go_simp; with_reducible rfl)))
                try simp only [Act.put, List.setIfInBounds_toArray, List.set_cons_zero, List.set_cons_succ]
                refine held_take (i := 14) (v := ?_) rfl (by kernel_rfl) (by kernel_rfl) (by kernel_rfl) (fun _ _ _ h => h) (by rfl) (fun w hSw => ?_) (by assumption) ?_; rotate_left 1; focus (((try dsimp only at hSw); first | (go_simp; done) | (go_simp; with_reducible rfl)))
                try simp only [Act.put, List.setIfInBounds_toArray, List.set_cons_zero, List.set_cons_succ]
                refine held_take (i := 15) (v := ?_) rfl (by kernel_rfl) (by kernel_rfl) (by kernel_rfl) (fun _ _ _ h => h) (by rfl) (fun w hSw => ?_) (by assumption) ?_; rotate_left 1; focus (((try dsimp only at hSw); first | (go_simp; done) | (go_simp; with_reducible rfl)))
                try simp only [Act.put, List.setIfInBounds_toArray, List.set_cons_zero, List.set_cons_succ]
                refine held_take (i := 16) (v := ?_) rfl (by kernel_rfl) (by kernel_rfl) (by kernel_rfl) (fun _ _ _ h => h) (by rfl) (fun w hSw => ?_) (by assumption) ?_; rotate_left 1; focus (((try dsimp only at hSw); first | (go_simp; done) | (go_simp; with_reducible rfl)))
                try simp only [Act.put, List.setIfInBounds_toArray, List.set_cons_zero, List.set_cons_succ]
                refine held_skip (i := 17) rfl (by kernel_rfl) (by kernel_rfl) (by kernel_rfl) (fun _ _ _ h => h) (by rfl) (by assumption) ?_
                try simp only [Act.put, List.setIfInBounds_toArray, List.set_cons_zero, List.set_cons_succ]
                refine held_skip (i := 18) rfl (by kernel_rfl) (by kernel_rfl) (by kernel_rfl) (fun _ _ _ h => h) (by rfl) (by assumption) ?_
                try simp only [Act.put, List.setIfInBounds_toArray, List.set_cons_zero, List.set_cons_succ]
                refine held_skip (i := 19) rfl (by kernel_rfl) (by kernel_rfl) (by kernel_rfl) (fun _ _ _ h => h) (by rfl) (by assumption) ?_
                try simp only [Act.put, List.setIfInBounds_toArray, List.set_cons_zero, List.set_cons_succ]
                refine held_skip (i := 20) rfl (by kernel_rfl) (by kernel_rfl) (by kernel_rfl) (fun _ _ _ h => h) (by rfl) (by assumption) ?_
                try simp only [Act.put, List.setIfInBounds_toArray, List.set_cons_zero, List.set_cons_succ]
                refine held_skip (i := 21) rfl (by kernel_rfl) (by kernel_rfl) (by kernel_rfl) (fun _ _ _ h => h) (by rfl) (by assumption) ?_
                try simp only [Act.put, List.setIfInBounds_toArray, List.set_cons_zero, List.set_cons_succ]
                refine held_skip (i := 22) rfl (by kernel_rfl) (by kernel_rfl) (by kernel_rfl) (fun _ _ _ h => h) (by rfl) (by assumption) ?_
                try simp only [Act.put, List.setIfInBounds_toArray, List.set_cons_zero, List.set_cons_succ]
                refine held_skip (i := 23) rfl (by kernel_rfl) (by kernel_rfl) (by kernel_rfl) (fun _ _ _ h => h) (by rfl) (by assumption) ?_
                try simp only [Act.put, List.setIfInBounds_toArray, List.set_cons_zero, List.set_cons_succ]
                refine held_skip (i := 24) rfl (by kernel_rfl) (by kernel_rfl) (by kernel_rfl) (fun _ _ _ h => h) (by rfl) (by assumption) ?_
                try simp only [Act.put, List.setIfInBounds_toArray, List.set_cons_zero, List.set_cons_succ]
                refine held_take (i := 25) (v := ?_) rfl (by kernel_rfl) (by kernel_rfl) (by kernel_rfl) (fun _ _ _ h => h) (by rfl) (fun w hSw => ?_) (by assumption) ?_; rotate_left 1; focus (((try dsimp only at hSw); first | (go_simp; done) | (go_simp; with_reducible rfl)))
                try simp only [Act.put, List.setIfInBounds_toArray, List.set_cons_zero, List.set_cons_succ]
                refine wpAnyH_done (by kernel_rfl) ?_ _
                go_wp2_with fail
                go_returns
                exact ⟨by rw [hF.out]; rfl, I3.out.bel⟩
            · rw [decide_eq_false e1] at VC
              have hF : Hid (T = false) := Lib.hid (hnoE.out (fun h => e1 h.1))
              clear e1
              go_upto_region 13 with fail
              refine wp_region_held_drew (S := (fun u => (u.cell? ⟨b, o + k * 7, none⟩ = some (.int .u64 (x.num : Int)) ∧ u.cell? ⟨b, o + k * 7 + 1, none⟩ = some (.int .i64 x.size) ∧ u.cell? ⟨b, o + k * 7 + 2, none⟩ = some (.int .i64 x.rows) ∧ u.cell? ⟨b, o + k * 7 + 3, none⟩ = some (.string x.fst) ∧ u.cell? ⟨b, o + k * 7 + 4, none⟩ = some (.string x.lst) ∧ u.cell? ⟨b, o + k * 7 + 5, none⟩ = some (.int .u64 (x.least : Int)) ∧ u.cell? ⟨b, o + k * 7 + 6, none⟩ = some (.int .u64 (x.gr : Int))) ∧ u.cell? ⟨w.heap.size, 1, none⟩ = some (.int .u64 (v.next : Int)) ∧ u.cell? ⟨w.heap.size, 2, none⟩ = some (.int .u64 (v.seq : Int)))) (by kernel_rfl) (mm0.out) (fun hHeld => ?_)
              refine held_take (i := 0) (v := ?_) rfl (by kernel_rfl) (by kernel_rfl) (by kernel_rfl) (fun _ _ _ h => h) (by rfl) (fun w hSw => ?_) (by assumption) ?_; rotate_left 1; focus (((try dsimp only at hSw); first | (go_simp; done) | (go_simp; with_reducible rfl)))
              try simp only [Act.put, List.setIfInBounds_toArray, List.set_cons_zero, List.set_cons_succ]
              refine held_take (i := 1) (v := ?_) rfl (by kernel_rfl) (by kernel_rfl) (by kernel_rfl) (fun _ _ _ h => h) (by rfl) (fun w hSw => ?_) (by assumption) ?_; rotate_left 1; focus (((try dsimp only at hSw); first | (go_simp; done) | (go_simp; with_reducible rfl)))
              try simp only [Act.put, List.setIfInBounds_toArray, List.set_cons_zero, List.set_cons_succ]
              refine held_take (i := 2) (v := ?_) rfl (by kernel_rfl) (by kernel_rfl) (by kernel_rfl) (fun _ _ _ h => h) (by rfl) (fun w hSw => ?_) (by assumption) ?_; rotate_left 1; focus (((try dsimp only at hSw); first | (go_simp; done) | (go_simp; with_reducible rfl)))
              try simp only [Act.put, List.setIfInBounds_toArray, List.set_cons_zero, List.set_cons_succ]
              refine held_take (i := 3) (v := ?_) rfl (by kernel_rfl) (by kernel_rfl) (by kernel_rfl) (fun _ _ _ h => h) (by rfl) (fun w hSw => ?_) (by assumption) ?_; rotate_left 1; focus (((try dsimp only at hSw); first | (go_simp; done) | (go_simp; with_reducible rfl)))
              try simp only [Act.put, List.setIfInBounds_toArray, List.set_cons_zero, List.set_cons_succ]
              refine held_call (i := 4) (by kernel_rfl) rfl (by rfl) (fun K hK => ?_)
              go_simp
              (go_at_call 44; ((with_reducible refine (VC.out _).mono ?_); rintro e w3 ⟨rfl, hb3⟩))
              have m3 := Lib.hid (hkeep.out _ hb3)
              have I3 := Lib.hid (hJ.out.below hb3)
              clear hb3
              refine hK.out _ _ (m3.out) (fun hHeld => ?_)
              try simp only [Act.put, List.setIfInBounds_toArray, List.set_cons_zero, List.set_cons_succ]
              refine held_take (i := 5) (v := ?_) rfl (by kernel_rfl) (by kernel_rfl) (by kernel_rfl) (fun _ _ _ h => h) (by rfl) (fun w hSw => ?_) (by assumption) ?_; rotate_left 1; focus (((try dsimp only at hSw); first | (go_simp; done) | (go_simp; with_reducible rfl)))
              try simp only [Act.put, List.setIfInBounds_toArray, List.set_cons_zero, List.set_cons_succ]
              refine held_take (i := 6) (v := ?_) rfl (by kernel_rfl) (by kernel_rfl) (by kernel_rfl) (fun _ _ _ h => h) (by rfl) (fun w hSw => ?_) (by assumption) ?_; rotate_left 1; focus (((try dsimp only at hSw); first | (go_simp; done) | (go_simp; with_reducible rfl)))
              try simp only [Act.put, List.setIfInBounds_toArray, List.set_cons_zero, List.set_cons_succ]
              refine held_skip (i := 7) rfl (by kernel_rfl) (by kernel_rfl) (by kernel_rfl) (fun _ _ _ h => h) (by rfl) (by assumption) ?_
              try simp only [Act.put, List.setIfInBounds_toArray, List.set_cons_zero, List.set_cons_succ]
              refine held_skip (i := 8) rfl (by kernel_rfl) (by kernel_rfl) (by kernel_rfl) (fun _ _ _ h => h) (by rfl) (by assumption) ?_
              try simp only [Act.put, List.setIfInBounds_toArray, List.set_cons_zero, List.set_cons_succ]
              refine held_skip (i := 9) rfl (by kernel_rfl) (by kernel_rfl) (by kernel_rfl) (fun _ _ _ h => h) (by rfl) (by assumption) ?_
              try simp only [Act.put, List.setIfInBounds_toArray, List.set_cons_zero, List.set_cons_succ]
              refine held_skip (i := 10) rfl (by kernel_rfl) (by kernel_rfl) (by kernel_rfl) (fun _ _ _ h => h) (by rfl) (by assumption) ?_
              try simp only [Act.put, List.setIfInBounds_toArray, List.set_cons_zero, List.set_cons_succ]
              refine held_skip (i := 11) rfl (by kernel_rfl) (by kernel_rfl) (by kernel_rfl) (fun _ _ _ h => h) (by rfl) (by assumption) ?_
              try simp only [Act.put, List.setIfInBounds_toArray, List.set_cons_zero, List.set_cons_succ]
              refine held_skip (i := 12) rfl (by kernel_rfl) (by kernel_rfl) (by kernel_rfl) (fun _ _ _ h => h) (by rfl) (by assumption) ?_
              try simp only [Act.put, List.setIfInBounds_toArray, List.set_cons_zero, List.set_cons_succ]
              refine held_skip (i := 13) rfl (by kernel_rfl) (by kernel_rfl) (by kernel_rfl) (fun _ _ _ h => h) (by rfl) (by assumption) ?_
              try simp only [Act.put, List.setIfInBounds_toArray, List.set_cons_zero, List.set_cons_succ]
              refine held_skip (i := 14) rfl (by kernel_rfl) (by kernel_rfl) (by kernel_rfl) (fun _ _ _ h => h) (by rfl) (by assumption) ?_
              try simp only [Act.put, List.setIfInBounds_toArray, List.set_cons_zero, List.set_cons_succ]
              refine held_take (i := 15) (v := ?_) rfl (by kernel_rfl) (by kernel_rfl) (by kernel_rfl) (fun _ _ _ h => h) (by rfl) (fun w hSw => ?_) (by assumption) ?_; rotate_left 1; focus (((try dsimp only at hSw); first | (go_simp; done) | (go_simp; with_reducible rfl)))
              try simp only [Act.put, List.setIfInBounds_toArray, List.set_cons_zero, List.set_cons_succ]
              refine held_take (i := 16) (v := ?_) rfl (by kernel_rfl) (by kernel_rfl) (by kernel_rfl) (fun _ _ _ h => h) (by rfl) (fun w hSw => ?_) (by assumption) ?_; rotate_left 1; focus (((try dsimp only at hSw); first | (go_simp; done) | (go_simp; with_reducible rfl)))
              try simp only [Act.put, List.setIfInBounds_toArray, List.set_cons_zero, List.set_cons_succ]
              refine held_skip (i := 17) rfl (by kernel_rfl) (by kernel_rfl) (by kernel_rfl) (fun _ _ _ h => h) (by rfl) (by assumption) ?_
              try simp only [Act.put, List.setIfInBounds_toArray, List.set_cons_zero, List.set_cons_succ]
              refine held_skip (i := 18) rfl (by kernel_rfl) (by kernel_rfl) (by kernel_rfl) (fun _ _ _ h => h) (by rfl) (by assumption) ?_
              try simp only [Act.put, List.setIfInBounds_toArray, List.set_cons_zero, List.set_cons_succ]
              refine held_skip (i := 19) rfl (by kernel_rfl) (by kernel_rfl) (by kernel_rfl) (fun _ _ _ h => h) (by rfl) (by assumption) ?_
              try simp only [Act.put, List.setIfInBounds_toArray, List.set_cons_zero, List.set_cons_succ]
              refine held_skip (i := 20) rfl (by kernel_rfl) (by kernel_rfl) (by kernel_rfl) (fun _ _ _ h => h) (by rfl) (by assumption) ?_
              try simp only [Act.put, List.setIfInBounds_toArray, List.set_cons_zero, List.set_cons_succ]
              refine held_skip (i := 21) rfl (by kernel_rfl) (by kernel_rfl) (by kernel_rfl) (fun _ _ _ h => h) (by rfl) (by assumption) ?_
              try simp only [Act.put, List.setIfInBounds_toArray, List.set_cons_zero, List.set_cons_succ]
              refine held_skip (i := 22) rfl (by kernel_rfl) (by kernel_rfl) (by kernel_rfl) (fun _ _ _ h => h) (by rfl) (by assumption) ?_
              try simp only [Act.put, List.setIfInBounds_toArray, List.set_cons_zero, List.set_cons_succ]
              refine held_skip (i := 23) rfl (by kernel_rfl) (by kernel_rfl) (by kernel_rfl) (fun _ _ _ h => h) (by rfl) (by assumption) ?_
              try simp only [Act.put, List.setIfInBounds_toArray, List.set_cons_zero, List.set_cons_succ]
              refine held_skip (i := 24) rfl (by kernel_rfl) (by kernel_rfl) (by kernel_rfl) (fun _ _ _ h => h) (by rfl) (by assumption) ?_
              try simp only [Act.put, List.setIfInBounds_toArray, List.set_cons_zero, List.set_cons_succ]
              refine held_take (i := 25) (v := ?_) rfl (by kernel_rfl) (by kernel_rfl) (by kernel_rfl) (fun _ _ _ h => h) (by rfl) (fun w hSw => ?_) (by assumption) ?_; rotate_left 1; focus (((try dsimp only at hSw); first | (go_simp; done) | (go_simp; with_reducible rfl)))
              try simp only [Act.put, List.setIfInBounds_toArray, List.set_cons_zero, List.set_cons_succ]
              refine wpAnyH_done (by kernel_rfl) ?_ _
              go_wp2_with fail
              go_returns
              exact ⟨by rw [hF.out]; rfl, I3.out.bel⟩
          · have j0 : ¬ (k : Int) < (n : Int) := by omega
            obtain rfl : k = n := by omega
            have hok := Lib.hid (hall.out hto.out)
            have et : Hid ((v.lv j).take k = v.lv j) := Lib.hid (List.take_of_length_le (by rw [hlen.out]; exact Nat.le_refl _))
            have hnx : Hid (RfI v H (j + 1) (n0 + k) (numsTo v (j + 1)) (.slice p1 (n0 + k) p3) w wr ∧ n0 + k ≤ 64 * (j + 1)) := Lib.hid ⟨⟨hq.out.bel, hq.out.ver, fun i hi1 => by
              rcases Nat.lt_or_ge i j with h | h
              · exact hq.out.lev i h
              · obtain rfl : i = j := by omega
                exact hok.out, by have := hi.out.2; omega, by have := hq.out.seen; rw [et.out] at this; exact this⟩, by have := hi.out.2; omega⟩
            go_wp2_with fail
            go_roundw
            case rel => exact ⟨j + 1, n0 + k, p1, n0 + k, p3, by omega, by go_num, rfl, hnx⟩
            case measure => simp [intOf]; omega
      · have i64 : (64 : Int) < (n : Int) := by omega
        have hF : Hid (T = false) := Lib.hid (hno.out (fun h => h64 (by have := h.1; rw [hlen.out] at this; exact this)))
        go_wp2_with fail
        go_returns
        exact ⟨by rw [hF.out]; rfl, hi.out.1.bel⟩
    · have i0 : ¬ (j : Int) < 4 := by omega
      obtain rfl : j = 4 := by omega
      have hF : Hid (T = true) := Lib.hid (by rw [hT.out]; exact tf_true hi.out.1.lev)
      go_wp2_with fail
      go_returns
      exact ⟨by rw [hF.out]; rfl, hi.out.1.bel⟩
end Go.Proofs.Ytnmjfdejgfmoiaa
