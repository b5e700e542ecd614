/- The walk of tabulariumlaw01.MeterActs: it answers true whatever the limit and the calls are. -/
import Derived.Test.YtnejgdbmjnhfiaaBnd
namespace Go.Proofs.Ytnejgdbmjnhfiaa.Mtr
open Go.RowKit Kit

/-- The document's own meter lies at block xb. -/
def Xt (w : World) (xb : Nat) (L u pk rf : Int) : Prop := w.heap[xb]? = some (.cells #[.int .i64 L, .int .i64 u, .int .i64 pk, .int .i64 rf] 27 (0, 0))

/-- What holds at the head of the law's loop, behind k calls. -/
def Both (w : World) (bp xb : Nat) (L : Int) (k : Nat) (wr : World) : Prop :=
  ∃ bt u pk rf, Mt wr bp bt L u pk rf ∧ Xt wr xb L u pk rf ∧ 0 ≤ u ∧ u ≤ L ∧ 0 ≤ rf ∧ rf ≤ k ∧ Below w.heap.size w wr

set_option maxHeartbeats 400000 in
theorem acts_long (limit : Int) (ad : Option Addr) (len cap : Nat) (w : World) (h : 100 < len) :
    Calls Try.prog 3 #[.int .i64 limit, .slice ad len cap] w fun e w' => e = .returned (.bool true) ∧ Below w.heap.size w w' := by
  go_enter Try.func3, Try.ntmps3
  go_wp2_with fail
  refine (wakes_yes _).mono ?_
  rintro e w0 ⟨rfl, b0⟩
  go_wp2_with fail
  go_ret
  exact ⟨rfl, b0⟩

set_option maxHeartbeats 400000 in
theorem acts_zero (limit L : Int) (ad : Option Addr) (cap : Nat) (w : World) (hlim : limit ≤ 9223372036854775807) (hL : max limit 0 = L) :
    Calls Try.prog 3 #[.int .i64 limit, .slice ad 0 cap] w fun e w' => e = .returned (.bool true) ∧ Below w.heap.size w w' := by
  have L0 : 0 ≤ L := by omega
  have L1 : L ≤ 9223372036854775807 := by omega
  go_enter Try.func3, Try.ntmps3
  go_wp2_with fail
  refine (wakes_yes _).mono ?_
  rintro e w0 ⟨rfl, b0⟩
  go_wp2_with fail
  refine (mNew limit _).mono ?_
  rintro e w1 ⟨rfl, rfl⟩
  rw [hL]
  have m0 := made_mt w0 L
  have b1 : Below w.heap.size w (made w0 L) := b0.trans ((made_below w0 L).mono b0.size)
  have hs := b0.size
  generalize made w0 L = w1 at *
  generalize w0.heap.size = bp at *
  go_wp2_with fail
  refine (rNew limit _).mono ?_
  rw [hL]
  rintro e w2 ⟨rfl, b2⟩
  have m1 := m0.below b2
  have b3 := b1.trans (b2.mono b1.size)
  have hs2 := b3.size
  clear m0 b1 b2 hL
  go_wp2_with fail
  refine (told_yes _ _ _ _ _ _ _ (m1.alloc _) (by omega) (by omega) L1).mono ?_
  rintro e w3 ⟨rfl, b4⟩
  have m2 := (m1.alloc (.cells #[.int .i64 L, .int .i64 0, .int .i64 0, .int .i64 0] 27)).below b4
  have x2 : Xt w3 w2.heap.size L 0 0 0 := by
    refine (b4.block w2.heap.size (by simp)).trans ?_
    show (Array.push _ _)[w2.heap.size]? = _
    simp
  have b5 := (b3.alloc hs2 (.cells #[.int .i64 L, .int .i64 0, .int .i64 0, .int .i64 0] 27)).trans (b4.mono (by simp; omega))
  clear m1 b3 b4
  generalize w2.heap.size = xb at *
  go_wp2_with fail
  refine wp_loop_rounds 1 ?_
  rw [rounds_succ]
  go_wp2_with fail
  go_ret
  exact ⟨rfl, b5⟩

/-- The four stores of 'x = ..'. -/
theorem Xt.stored {w : World} {xb : Nat} {L u pk rf : Int} (h : Xt w xb L u pk rf) (a b c d : Int) :
    Xt ((((w.setCell ⟨xb, 0, none⟩ (.int .i64 a)).setCell ⟨xb, 1, none⟩ (.int .i64 b)).setCell ⟨xb, 2, none⟩ (.int .i64 c)).setCell ⟨xb, 3, none⟩ (.int .i64 d)) xb a b c d := by
  unfold Xt at *
  simp only [World.setCell, Array.getElem?_modify, if_true, h]
  simp

theorem Xt.ne {w : World} {p pt xb : Nat} {L u pk rf L' u' pk' rf' : Int} (x : Xt w xb L u pk rf) (m : Mt w p pt L' u' pk' rf') : p ≠ xb ∧ pt ≠ xb := by
  unfold Xt at x
  refine ⟨fun e => ?_, fun e => ?_⟩
  · have h := m.mh
    rw [e, x] at h
    simp at h
  · have h := m.th
    rw [e, x] at h
    simp at h

/-- The meter behind the stores of 'x = ..'. -/
theorem Mt.stored {w : World} {bp bt xb : Nat} {L u pk rf L' u' pk' rf' : Int} (m : Mt w bp bt L u pk rf) (x : Xt w xb L' u' pk' rf') (a b c d : Int) :
    Mt ((((w.setCell ⟨xb, 0, none⟩ (.int .i64 a)).setCell ⟨xb, 1, none⟩ (.int .i64 b)).setCell ⟨xb, 2, none⟩ (.int .i64 c)).setCell ⟨xb, 3, none⟩ (.int .i64 d)) bp bt L u pk rf := by
  obtain ⟨h1, h2⟩ := x.ne m
  refine ⟨?_, ?_⟩
  · rw [Below.heap_setCell _ _ _ _ h1, Below.heap_setCell _ _ _ _ h1, Below.heap_setCell _ _ _ _ h1, Below.heap_setCell _ _ _ _ h1]
    exact m.mh
  · rw [Below.heap_setCell _ _ _ _ h2, Below.heap_setCell _ _ _ _ h2, Below.heap_setCell _ _ _ _ h2, Below.heap_setCell _ _ _ _ h2]
    exact m.th

/-- The document's meter behind a step of the other one. -/
theorem Xt.grown {w w' : World} {bp bt xb : Nat} {L u pk rf L' u' pk' rf' : Int} (x : Xt w xb L u pk rf) (m : Mt w bp bt L' u' pk' rf') (g : w.grownBy w' (some bp)) : Xt w' xb L u pk rf :=
  (g.block xb (lt_of_heap x) (fun e => by injection e with e; exact (x.ne m).1 e.symm)).trans x

set_option maxHeartbeats 1600000 in
theorem acts_some (limit L : Int) (b off len cap : Nat) (w : World) (h0 : 0 < len) (h100 : len ≤ 100) (hO : Ops w b off len) (hlim : limit ≤ 9223372036854775807) (hL : max limit 0 = L) :
    Calls Try.prog 3 #[.int .i64 limit, .slice (some ⟨b, off, none⟩) len cap] w fun e w' => e = .returned (.bool true) ∧ Below w.heap.size w w' := by
  have hbw : b < w.heap.size := by
    obtain ⟨g, n, hc, _⟩ := hO 0 h0
    exact World.block_lt_of_cell? w _ hc
  have L0 : 0 ≤ L := by omega
  have L1 : L ≤ 9223372036854775807 := by omega
  go_enter Try.func3, Try.ntmps3
  go_wp2_with fail
  refine (wakes_yes _).mono ?_
  rintro e w0 ⟨rfl, b0⟩
  go_wp2_with fail
  refine (mNew limit _).mono ?_
  rintro e w1 ⟨rfl, rfl⟩
  rw [hL]
  have m0 := made_mt w0 L
  have b1 : Below w.heap.size w (made w0 L) := b0.trans ((made_below w0 L).mono b0.size)
  have hs := b0.size
  generalize made w0 L = w1 at *
  generalize w0.heap.size = bp at *
  go_wp2_with fail
  refine (rNew limit _).mono ?_
  rw [hL]
  rintro e w2 ⟨rfl, b2⟩
  have m1 := m0.below b2
  have b3 := b1.trans (b2.mono b1.size)
  have hs2 := b3.size
  clear m0 b1 b2 hL
  go_wp2_with fail
  refine (told_yes _ _ _ _ _ _ _ (m1.alloc _) (by omega) (by omega) L1).mono ?_
  rintro e w3 ⟨rfl, b4⟩
  have m2 := (m1.alloc (.cells #[.int .i64 L, .int .i64 0, .int .i64 0, .int .i64 0] 27)).below b4
  have x2 : Xt w3 w2.heap.size L 0 0 0 := by
    refine (b4.block w2.heap.size (by simp)).trans ?_
    show (Array.push _ _)[w2.heap.size]? = _
    simp
  have b5 := (b3.alloc hs2 (.cells #[.int .i64 L, .int .i64 0, .int .i64 0, .int .i64 0] 27)).trans (b4.mono (by simp; omega))
  clear m1 b3 b4
  generalize w2.heap.size = xb at *
  go_wp2_with fail
  go_loopw [29] (fun i wr => ∃ (k : Nat), k ≤ len ∧ i = .int .i64 k ∧ Both w bp xb L k wr) (fun i _ => len - (intOf i).toNat)
  case atStart => exact ⟨0, Nat.zero_le _, rfl, _, _, _, _, m2, x2, by omega, L0, by omega, by omega, b5⟩
  case round =>
    clear m2 x2 b5
    obtain ⟨k, hk, rfl, hI⟩ := hrel
    by_cases hlt : k < len
    · obtain ⟨g, n, hcg, hcn, n1, n2⟩ := hO k hlt
      obtain ⟨bt, u, pk, rf, m, x, z1, z2, z3, z4, hB⟩ := hI
      have kg : wr.cell? ⟨b, off + k * 2, none⟩ = some (.bool g) := (hB.cell (p := ⟨b, off + k * 2, none⟩) hbw).trans hcg
      have kn : wr.cell? ⟨b, off + k * 2 + 1, none⟩ = some (.int .i64 n) := (hB.cell (p := ⟨b, off + k * 2 + 1, none⟩) hbw).trans hcn
      have c0 : wr.cell? ⟨xb, 0, none⟩ = some (.int .i64 L) := cell_of x 0
      have c1 : wr.cell? ⟨xb, 1, none⟩ = some (.int .i64 u) := cell_of x 1
      have c2 : wr.cell? ⟨xb, 2, none⟩ = some (.int .i64 pk) := cell_of x 2
      have c3 : wr.cell? ⟨xb, 3, none⟩ = some (.int .i64 rf) := cell_of x 3
      have kx : xb < wr.heap.size := lt_of_heap x
      clear hcg hcn
      cases g
      · by_cases hy : 0 ≤ n ∧ n ≤ L - u
        · obtain ⟨y1, y2⟩ := hy
          go_wp2_with fail
          refine (rTake_yes _ _ _ _ _ _ z1 y1 y2 L1).mono ?_
          rintro e w4 ⟨rfl, b4⟩
          have hx4 : Xt w4 xb L u pk rf := (b4.block xb (by simp; omega)).trans ((Below.heap_alloc _ _ _ kx).trans x)
          have m4 := (m.alloc (.cells #[.bool false, .int .i64 n] 31)).below b4
          have e0 : w4.cell? ⟨xb, 0, none⟩ = some (.int .i64 L) := cell_of hx4 0
          have e1 : w4.cell? ⟨xb, 1, none⟩ = some (.int .i64 u) := cell_of hx4 1
          have e2 : w4.cell? ⟨xb, 2, none⟩ = some (.int .i64 pk) := cell_of hx4 2
          have e3 : w4.cell? ⟨xb, 3, none⟩ = some (.int .i64 rf) := cell_of hx4 3
          have f0 : w4.frozen? ⟨xb, 0, none⟩ = false := free_of hx4 0
          have f1 : w4.frozen? ⟨xb, 1, none⟩ = false := free_of hx4 1
          have f2 : w4.frozen? ⟨xb, 2, none⟩ = false := free_of hx4 2
          have f3 : w4.frozen? ⟨xb, 3, none⟩ = false := free_of hx4 3
          have d0 : w4.cell? ⟨wr.heap.size, 0, none⟩ = some (.bool false) := (b4.cell (p := ⟨wr.heap.size, 0, none⟩) (by simp)).trans (by simp)
          have d1 : w4.cell? ⟨wr.heap.size, 1, none⟩ = some (.int .i64 n) := (b4.cell (p := ⟨wr.heap.size, 1, none⟩) (by simp)).trans (by simp)
          have B4 := (hB.alloc hB.size (.cells #[.bool false, .int .i64 n] 31)).trans (b4.mono (by have := hB.size; simp; omega))
          clear b4 c0 c1 c2 c3 kg kn hB m x
          go_wp2_with fail
          have hx5 := hx4.stored L (u + n) (max pk (u + n)) rf
          have m5 := m4.stored hx4 L (u + n) (max pk (u + n)) rf
          have B5 := (((B4.setCell (p := ⟨xb, 0, none⟩) hs2 (.int .i64 L)).setCell (p := ⟨xb, 1, none⟩) hs2 (.int .i64 (u + n))).setCell (p := ⟨xb, 2, none⟩) hs2 (.int .i64 (max pk (u + n)))).setCell (p := ⟨xb, 3, none⟩) hs2 (.int .i64 rf)
          clear hx4 m4 B4 d0 d1 e0 e1 e2 e3 f0 f1 f2 f3
          generalize World.setCell (World.setCell (World.setCell (World.setCell w4 _ _) _ _) _ _) _ _ = w5 at *
          refine (mTake_yes _ _ _ _ _ _ n _ m5 z1 y1 y2 L1).mono ?_
          rintro e w6 ⟨rfl, bn, m6, g6⟩
          have hx6 := hx5.grown m5 g6
          have B6 := B5.trans (below_of_grown g6 B5.size hs)
          clear hx5 m5 B5 g6
          have e0 : w6.cell? ⟨xb, 0, none⟩ = some (.int .i64 L) := cell_of hx6 0
          have e1 : w6.cell? ⟨xb, 1, none⟩ = some (.int .i64 (u + n)) := cell_of hx6 1
          have e2 : w6.cell? ⟨xb, 2, none⟩ = some (.int .i64 (max pk (u + n))) := cell_of hx6 2
          have e3 : w6.cell? ⟨xb, 3, none⟩ = some (.int .i64 rf) := cell_of hx6 3
          go_wp2_with fail
          refine (told_yes _ _ _ _ _ _ _ m6 (by omega) (by omega) L1).mono ?_
          rintro e w7 ⟨rfl, b7⟩
          have m7 := m6.below b7
          have x7 : Xt w7 xb L (u + n) (max pk (u + n)) rf := (b7.block xb (lt_of_heap hx6)).trans hx6
          have B7 := B6.trans (b7.mono B6.size)
          clear e0 e1 e2 e3 m6 hx6 B6 b7
          go_wp2_with fail
          go_roundw
          case rel => exact ⟨k + 1, by omega, by go_num, bn, _, _, _, m7, x7, by omega, by omega, by omega, by omega, B7⟩
          case measure => simp [intOf]; omega
        · have hn : n < 0 ∨ L - u < n := by omega
          clear hy
          go_wp2_with fail
          refine (rTake_no _ _ _ _ _ _ z1 z2 hn L1 z3 (by omega)).mono ?_
          rintro e w4 ⟨rfl, b4⟩
          have hx4 : Xt w4 xb L u pk rf := (b4.block xb (by simp; omega)).trans ((Below.heap_alloc _ _ _ kx).trans x)
          have m4 := (m.alloc (.cells #[.bool false, .int .i64 n] 31)).below b4
          have e0 : w4.cell? ⟨xb, 0, none⟩ = some (.int .i64 L) := cell_of hx4 0
          have e1 : w4.cell? ⟨xb, 1, none⟩ = some (.int .i64 u) := cell_of hx4 1
          have e2 : w4.cell? ⟨xb, 2, none⟩ = some (.int .i64 pk) := cell_of hx4 2
          have e3 : w4.cell? ⟨xb, 3, none⟩ = some (.int .i64 rf) := cell_of hx4 3
          have f0 : w4.frozen? ⟨xb, 0, none⟩ = false := free_of hx4 0
          have f1 : w4.frozen? ⟨xb, 1, none⟩ = false := free_of hx4 1
          have f2 : w4.frozen? ⟨xb, 2, none⟩ = false := free_of hx4 2
          have f3 : w4.frozen? ⟨xb, 3, none⟩ = false := free_of hx4 3
          have d0 : w4.cell? ⟨wr.heap.size, 0, none⟩ = some (.bool false) := (b4.cell (p := ⟨wr.heap.size, 0, none⟩) (by simp)).trans (by simp)
          have d1 : w4.cell? ⟨wr.heap.size, 1, none⟩ = some (.int .i64 n) := (b4.cell (p := ⟨wr.heap.size, 1, none⟩) (by simp)).trans (by simp)
          have B4 := (hB.alloc hB.size (.cells #[.bool false, .int .i64 n] 31)).trans (b4.mono (by have := hB.size; simp; omega))
          clear b4 c0 c1 c2 c3 kg kn hB m x
          go_wp2_with fail
          have hx5 := hx4.stored L u pk (rf + 1)
          have m5 := m4.stored hx4 L u pk (rf + 1)
          have B5 := (((B4.setCell (p := ⟨xb, 0, none⟩) hs2 (.int .i64 L)).setCell (p := ⟨xb, 1, none⟩) hs2 (.int .i64 u)).setCell (p := ⟨xb, 2, none⟩) hs2 (.int .i64 pk)).setCell (p := ⟨xb, 3, none⟩) hs2 (.int .i64 (rf + 1))
          clear hx4 m4 B4 d0 d1 e0 e1 e2 e3 f0 f1 f2 f3
          generalize World.setCell (World.setCell (World.setCell (World.setCell w4 _ _) _ _) _ _) _ _ = w5 at *
          refine (mTake_no _ _ _ _ _ _ n _ m5 z1 z2 hn L1 z3 (by omega)).mono ?_
          rintro e w6 ⟨rfl, bn, m6, g6⟩
          have hx6 := hx5.grown m5 g6
          have B6 := B5.trans (below_of_grown g6 B5.size hs)
          clear hx5 m5 B5 g6
          have e0 : w6.cell? ⟨xb, 0, none⟩ = some (.int .i64 L) := cell_of hx6 0
          have e1 : w6.cell? ⟨xb, 1, none⟩ = some (.int .i64 u) := cell_of hx6 1
          have e2 : w6.cell? ⟨xb, 2, none⟩ = some (.int .i64 pk) := cell_of hx6 2
          have e3 : w6.cell? ⟨xb, 3, none⟩ = some (.int .i64 (rf + 1)) := cell_of hx6 3
          go_wp2_with fail
          refine (told_yes _ _ _ _ _ _ _ m6 (by omega) (by omega) L1).mono ?_
          rintro e w7 ⟨rfl, b7⟩
          have m7 := m6.below b7
          have x7 : Xt w7 xb L u pk (rf + 1) := (b7.block xb (lt_of_heap hx6)).trans hx6
          have B7 := B6.trans (b7.mono B6.size)
          clear e0 e1 e2 e3 m6 hx6 B6 b7
          go_wp2_with fail
          go_roundw
          case rel => exact ⟨k + 1, by omega, by go_num, bn, _, _, _, m7, x7, by omega, by omega, by omega, by omega, B7⟩
          case measure => simp [intOf]; omega
      · by_cases hy : 0 ≤ n ∧ n ≤ u
        · obtain ⟨y1, y2⟩ := hy
          go_wp2_with fail
          refine (rGive_yes _ _ _ _ _ _ y1 y2 (by omega)).mono ?_
          rintro e w4 ⟨rfl, b4⟩
          have hx4 : Xt w4 xb L u pk rf := (b4.block xb (by simp; omega)).trans ((Below.heap_alloc _ _ _ kx).trans x)
          have m4 := (m.alloc (.cells #[.bool true, .int .i64 n] 31)).below b4
          have e0 : w4.cell? ⟨xb, 0, none⟩ = some (.int .i64 L) := cell_of hx4 0
          have e1 : w4.cell? ⟨xb, 1, none⟩ = some (.int .i64 u) := cell_of hx4 1
          have e2 : w4.cell? ⟨xb, 2, none⟩ = some (.int .i64 pk) := cell_of hx4 2
          have e3 : w4.cell? ⟨xb, 3, none⟩ = some (.int .i64 rf) := cell_of hx4 3
          have f0 : w4.frozen? ⟨xb, 0, none⟩ = false := free_of hx4 0
          have f1 : w4.frozen? ⟨xb, 1, none⟩ = false := free_of hx4 1
          have f2 : w4.frozen? ⟨xb, 2, none⟩ = false := free_of hx4 2
          have f3 : w4.frozen? ⟨xb, 3, none⟩ = false := free_of hx4 3
          have d0 : w4.cell? ⟨wr.heap.size, 0, none⟩ = some (.bool true) := (b4.cell (p := ⟨wr.heap.size, 0, none⟩) (by simp)).trans (by simp)
          have d1 : w4.cell? ⟨wr.heap.size, 1, none⟩ = some (.int .i64 n) := (b4.cell (p := ⟨wr.heap.size, 1, none⟩) (by simp)).trans (by simp)
          have B4 := (hB.alloc hB.size (.cells #[.bool true, .int .i64 n] 31)).trans (b4.mono (by have := hB.size; simp; omega))
          clear b4 c0 c1 c2 c3 kg kn hB m x
          go_wp2_with fail
          have hx5 := hx4.stored L (u - n) pk rf
          have m5 := m4.stored hx4 L (u - n) pk rf
          have B5 := (((B4.setCell (p := ⟨xb, 0, none⟩) hs2 (.int .i64 L)).setCell (p := ⟨xb, 1, none⟩) hs2 (.int .i64 (u - n))).setCell (p := ⟨xb, 2, none⟩) hs2 (.int .i64 pk)).setCell (p := ⟨xb, 3, none⟩) hs2 (.int .i64 rf)
          clear hx4 m4 B4 d0 d1 e0 e1 e2 e3 f0 f1 f2 f3
          generalize World.setCell (World.setCell (World.setCell (World.setCell w4 _ _) _ _) _ _) _ _ = w5 at *
          refine (mGive_yes _ _ _ _ _ _ n _ m5 y1 y2 (by omega)).mono ?_
          rintro e w6 ⟨rfl, bn, m6, g6⟩
          have hx6 := hx5.grown m5 g6
          have B6 := B5.trans (below_of_grown g6 B5.size hs)
          clear hx5 m5 B5 g6
          have e0 : w6.cell? ⟨xb, 0, none⟩ = some (.int .i64 L) := cell_of hx6 0
          have e1 : w6.cell? ⟨xb, 1, none⟩ = some (.int .i64 (u - n)) := cell_of hx6 1
          have e2 : w6.cell? ⟨xb, 2, none⟩ = some (.int .i64 pk) := cell_of hx6 2
          have e3 : w6.cell? ⟨xb, 3, none⟩ = some (.int .i64 rf) := cell_of hx6 3
          go_wp2_with fail
          refine (told_yes _ _ _ _ _ _ _ m6 (by omega) (by omega) L1).mono ?_
          rintro e w7 ⟨rfl, b7⟩
          have m7 := m6.below b7
          have x7 : Xt w7 xb L (u - n) pk rf := (b7.block xb (lt_of_heap hx6)).trans hx6
          have B7 := B6.trans (b7.mono B6.size)
          clear e0 e1 e2 e3 m6 hx6 B6 b7
          go_wp2_with fail
          go_roundw
          case rel => exact ⟨k + 1, by omega, by go_num, bn, _, _, _, m7, x7, by omega, by omega, by omega, by omega, B7⟩
          case measure => simp [intOf]; omega
        · have hn : n < 0 ∨ u < n := by omega
          clear hy
          go_wp2_with fail
          refine (rGive_no _ _ _ _ _ _ hn z3 (by omega)).mono ?_
          rintro e w4 ⟨rfl, b4⟩
          have hx4 : Xt w4 xb L u pk rf := (b4.block xb (by simp; omega)).trans ((Below.heap_alloc _ _ _ kx).trans x)
          have m4 := (m.alloc (.cells #[.bool true, .int .i64 n] 31)).below b4
          have e0 : w4.cell? ⟨xb, 0, none⟩ = some (.int .i64 L) := cell_of hx4 0
          have e1 : w4.cell? ⟨xb, 1, none⟩ = some (.int .i64 u) := cell_of hx4 1
          have e2 : w4.cell? ⟨xb, 2, none⟩ = some (.int .i64 pk) := cell_of hx4 2
          have e3 : w4.cell? ⟨xb, 3, none⟩ = some (.int .i64 rf) := cell_of hx4 3
          have f0 : w4.frozen? ⟨xb, 0, none⟩ = false := free_of hx4 0
          have f1 : w4.frozen? ⟨xb, 1, none⟩ = false := free_of hx4 1
          have f2 : w4.frozen? ⟨xb, 2, none⟩ = false := free_of hx4 2
          have f3 : w4.frozen? ⟨xb, 3, none⟩ = false := free_of hx4 3
          have d0 : w4.cell? ⟨wr.heap.size, 0, none⟩ = some (.bool true) := (b4.cell (p := ⟨wr.heap.size, 0, none⟩) (by simp)).trans (by simp)
          have d1 : w4.cell? ⟨wr.heap.size, 1, none⟩ = some (.int .i64 n) := (b4.cell (p := ⟨wr.heap.size, 1, none⟩) (by simp)).trans (by simp)
          have B4 := (hB.alloc hB.size (.cells #[.bool true, .int .i64 n] 31)).trans (b4.mono (by have := hB.size; simp; omega))
          clear b4 c0 c1 c2 c3 kg kn hB m x
          go_wp2_with fail
          have hx5 := hx4.stored L u pk (rf + 1)
          have m5 := m4.stored hx4 L u pk (rf + 1)
          have B5 := (((B4.setCell (p := ⟨xb, 0, none⟩) hs2 (.int .i64 L)).setCell (p := ⟨xb, 1, none⟩) hs2 (.int .i64 u)).setCell (p := ⟨xb, 2, none⟩) hs2 (.int .i64 pk)).setCell (p := ⟨xb, 3, none⟩) hs2 (.int .i64 (rf + 1))
          clear hx4 m4 B4 d0 d1 e0 e1 e2 e3 f0 f1 f2 f3
          generalize World.setCell (World.setCell (World.setCell (World.setCell w4 _ _) _ _) _ _) _ _ = w5 at *
          refine (mGive_no _ _ _ _ _ _ n _ m5 hn z3 (by omega)).mono ?_
          rintro e w6 ⟨rfl, bn, m6, g6⟩
          have hx6 := hx5.grown m5 g6
          have B6 := B5.trans (below_of_grown g6 B5.size hs)
          clear hx5 m5 B5 g6
          have e0 : w6.cell? ⟨xb, 0, none⟩ = some (.int .i64 L) := cell_of hx6 0
          have e1 : w6.cell? ⟨xb, 1, none⟩ = some (.int .i64 u) := cell_of hx6 1
          have e2 : w6.cell? ⟨xb, 2, none⟩ = some (.int .i64 pk) := cell_of hx6 2
          have e3 : w6.cell? ⟨xb, 3, none⟩ = some (.int .i64 (rf + 1)) := cell_of hx6 3
          go_wp2_with fail
          refine (told_yes _ _ _ _ _ _ _ m6 (by omega) (by omega) L1).mono ?_
          rintro e w7 ⟨rfl, b7⟩
          have m7 := m6.below b7
          have x7 : Xt w7 xb L u pk (rf + 1) := (b7.block xb (lt_of_heap hx6)).trans hx6
          have B7 := B6.trans (b7.mono B6.size)
          clear e0 e1 e2 e3 m6 hx6 B6 b7
          go_wp2_with fail
          go_roundw
          case rel => exact ⟨k + 1, by omega, by go_num, bn, _, _, _, m7, x7, by omega, by omega, by omega, by omega, B7⟩
          case measure => simp [intOf]; omega
    · have HI := Lib.hid hI
      clear hI
      go_wp2_with fail
      go_ret
      obtain ⟨_, _, _, _, _, _, _, _, _, _, hB⟩ := HI.out
      exact ⟨rfl, hB⟩
end Go.Proofs.Ytnejgdbmjnhfiaa.Mtr
