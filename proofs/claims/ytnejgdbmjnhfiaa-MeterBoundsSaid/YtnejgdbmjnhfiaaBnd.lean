/- The walk of tabulariumlaw01.MeterBounds: it answers true whatever the limit and the calls are. -/
import Derived.Test.YtnejgdbmjnhfiaaLaws
namespace Go.Proofs.Ytnejgdbmjnhfiaa.Mtr
open Go.RowKit Kit

/-- The calls of the law lie at ⟨b, off⟩: a flag and a number each. -/
def Ops (w : World) (b off len : Nat) : Prop :=
  ∀ k, k < len → ∃ (g : Bool) (n : Int), w.cell? ⟨b, off + k * 2, none⟩ = some (.bool g) ∧ w.cell? ⟨b, off + k * 2 + 1, none⟩ = some (.int .i64 n) ∧ -9223372036854775808 ≤ n ∧ n ≤ 9223372036854775807

/-- What holds at the head of the law's loop, behind k calls. -/
def Inv (w : World) (bp : Nat) (L : Int) (k : Nat) (pk : Int) (wr : World) : Prop :=
  ∃ bt u rf, Mt wr bp bt L u pk rf ∧ 0 ≤ u ∧ u ≤ L ∧ u ≤ pk ∧ 0 ≤ rf ∧ rf ≤ k ∧ Below w.heap.size w wr

theorem Inv.alloc {w wr : World} {bp : Nat} {L : Int} {k : Nat} {p : Int} (h : Inv w bp L k p wr) (o : Obj) : Inv w bp L k p (wr.alloc o) := by
  obtain ⟨bt, u, rf, m, h1, h2, h3, h4, h5, hB⟩ := h
  exact ⟨bt, u, rf, m.alloc o, h1, h2, h3, h4, h5, hB.alloc hB.size o⟩

/-- What a step leaves of it. -/
def Stp (w : World) (bp : Nat) (L : Int) (k : Nat) (p : Int) (e : Ending) (w' : World) : Prop :=
  ∃ (ok : Bool) (p' : Int), e = .returned (.bool ok) ∧ p ≤ p' ∧ Inv w bp L (k + 1) p' w'

theorem take_inv {w wr : World} {bp : Nat} {L : Int} {k : Nat} {p n : Int} (h : Inv w bp L k p wr) (hk : k ≤ 100) (hL : L ≤ 9223372036854775807) (hs : w.heap.size ≤ bp) :
    Calls Try.prog 14 #[.pointer (some ⟨bp, 0, none⟩), .int .i64 n] wr (Stp w bp L k p) := by
  obtain ⟨bt, u, rf, m, h1, h2, h3, h4, h5, hB⟩ := h
  by_cases hy : 0 ≤ n ∧ n ≤ L - u
  · refine (mTake_yes _ _ _ _ _ _ n _ m h1 hy.1 hy.2 hL).mono ?_
    rintro e w' ⟨rfl, bn, m', g⟩
    exact ⟨_, _, rfl, by omega, bn, _, _, m', by omega, by omega, by omega, h4, by omega, hB.trans (below_of_grown g hB.size hs)⟩
  · refine (mTake_no _ _ _ _ _ _ n _ m h1 h2 (by omega) hL h4 (by omega)).mono ?_
    rintro e w' ⟨rfl, bn, m', g⟩
    exact ⟨_, _, rfl, Int.le_refl _, bn, _, _, m', by omega, by omega, by omega, by omega, by omega, hB.trans (below_of_grown g hB.size hs)⟩

theorem give_inv {w wr : World} {bp : Nat} {L : Int} {k : Nat} {p n : Int} (h : Inv w bp L k p wr) (hk : k ≤ 100) (hL : L ≤ 9223372036854775807) (hs : w.heap.size ≤ bp) :
    Calls Try.prog 12 #[.pointer (some ⟨bp, 0, none⟩), .int .i64 n] wr (Stp w bp L k p) := by
  obtain ⟨bt, u, rf, m, h1, h2, h3, h4, h5, hB⟩ := h
  by_cases hy : 0 ≤ n ∧ n ≤ u
  · refine (mGive_yes _ _ _ _ _ _ n _ m hy.1 hy.2 (by omega)).mono ?_
    rintro e w' ⟨rfl, bn, m', g⟩
    exact ⟨_, _, rfl, Int.le_refl _, bn, _, _, m', by omega, by omega, by omega, h4, by omega, hB.trans (below_of_grown g hB.size hs)⟩
  · refine (mGive_no _ _ _ _ _ _ n _ m (by omega) h4 (by omega)).mono ?_
    rintro e w' ⟨rfl, bn, m', g⟩
    exact ⟨_, _, rfl, Int.le_refl _, bn, _, _, m', by omega, by omega, by omega, by omega, by omega, hB.trans (below_of_grown g hB.size hs)⟩

set_option maxHeartbeats 400000 in
theorem bounds_long (limit : Int) (ad : Option Addr) (len cap : Nat) (w : World) (h : 100 < len) :
    Calls Try.prog 4 #[.int .i64 limit, .slice ad len cap] w fun e w' => e = .returned (.bool true) ∧ Below w.heap.size w w' := by
  go_enter Try.func4, Try.ntmps4
  go_wp2_with fail
  refine (wakes_yes _).mono ?_
  rintro e w0 ⟨rfl, b0⟩
  go_wp2_with fail
  go_ret
  exact ⟨rfl, b0⟩

set_option maxHeartbeats 400000 in
theorem bounds_zero (limit L : Int) (ad : Option Addr) (cap : Nat) (w : World) (hL : max limit 0 = L) :
    Calls Try.prog 4 #[.int .i64 limit, .slice ad 0 cap] w fun e w' => e = .returned (.bool true) ∧ Below w.heap.size w w' := by
  go_enter Try.func4, Try.ntmps4
  go_wp2_with fail
  refine (wakes_yes _).mono ?_
  rintro e w0 ⟨rfl, b0⟩
  go_wp2_with fail
  refine (mNew limit _).mono ?_
  rintro e w1 ⟨rfl, rfl⟩
  rw [hL]
  have m0 := made_mt w0 L
  have b1 : Below w.heap.size w (made w0 L) := b0.trans ((made_below w0 L).mono b0.size)
  have hs := b0.size
  clear hL
  generalize made w0 L = w1 at *
  generalize w0.heap.size = bp at *
  go_wp2_with fail
  refine wp_loop_rounds 1 ?_
  rw [rounds_succ]
  go_wp2_with fail
  go_ret
  exact ⟨rfl, b1⟩

set_option maxHeartbeats 400000 in
theorem bounds_neg (limit : Int) (b off len cap : Nat) (w : World) (hneg : limit < 0) (h0 : 0 < len) (h100 : len ≤ 100) (hO : Ops w b off len) :
    Calls Try.prog 4 #[.int .i64 limit, .slice (some ⟨b, off, none⟩) len cap] w fun e w' => e = .returned (.bool true) ∧ Below w.heap.size w w' := by
  have hbw : b < w.heap.size := by
    obtain ⟨g, n, hc, _⟩ := hO 0 h0
    exact World.block_lt_of_cell? w _ hc
  have hL : max limit 0 = 0 := by omega
  have L0 : (0 : Int) ≤ 0 := by omega
  have L1 : (0 : Int) ≤ 9223372036854775807 := by omega
  go_enter Try.func4, Try.ntmps4
  go_wp2_with fail
  refine (wakes_yes _).mono ?_
  rintro e w0 ⟨rfl, b0⟩
  go_wp2_with fail
  refine (mNew limit _).mono ?_
  rintro e w1 ⟨rfl, rfl⟩
  rw [hL]
  have m0 := made_mt w0 0
  have b1 : Below w.heap.size w (made w0 0) := b0.trans ((made_below w0 0).mono b0.size)
  have hs := b0.size
  clear hL
  generalize made w0 0 = w1 at *
  generalize w0.heap.size = bp at *
  go_wp2_with fail
  go_loopw [6, 20] (fun pk i wr => ∃ (k : Nat) (p : Int), k ≤ len ∧ i = .int .i64 k ∧ pk = .int .i64 p ∧ Inv w bp 0 k p wr) (fun _ i _ => len - (intOf i).toNat)
  case atStart => exact ⟨0, 0, Nat.zero_le _, rfl, rfl, _, _, _, m0, by omega, L0, by omega, by omega, by omega, b1⟩
  case round =>
    obtain ⟨k, p, hk, rfl, rfl, hI⟩ := hrel
    by_cases hlt : k < len
    · obtain ⟨g, n, hcg, hcn, n1, n2⟩ := hO k hlt
      have hB0 : Below w.heap.size w wr := by
        obtain ⟨_, _, _, _, _, _, _, _, _, hB⟩ := hI
        exact hB
      have kg : wr.cell? ⟨b, off + k * 2, none⟩ = some (.bool g) := (hB0.cell (p := ⟨b, off + k * 2, none⟩) hbw).trans hcg
      have kn : wr.cell? ⟨b, off + k * 2 + 1, none⟩ = some (.int .i64 n) := (hB0.cell (p := ⟨b, off + k * 2 + 1, none⟩) hbw).trans hcn
      clear hcg hcn m0
      have HI := Lib.hid hI
      clear hI
      go_wp2_with fail
      · refine (give_inv (HI.out.alloc _) (by omega) L1 hs).mono ?_
        rintro e x0 ⟨ok, p', rfl, hpp, bt, u, rf, m, z1, z2, z3, z4, z5, hB⟩
        go_wp2_with fail
        refine (mUsed _ _ _ _ _ _ _ m).mono ?_
        rintro e x1 ⟨rfl, rfl⟩
        go_wp2_with fail
        refine (mLeft _ _ _ _ _ _ _ m z1 z2 L1).mono ?_
        rintro e x2 ⟨rfl, n2, rfl⟩
        have m := m.drewN n2
        have hB := below_drewN hB n2
        generalize World.drewN _ n2 = x2 at *
        go_wp2_with fail
        refine (mUsed _ _ _ _ _ _ _ m).mono ?_
        rintro e x3 ⟨rfl, rfl⟩
        go_wp2_with fail
        refine (mLeft _ _ _ _ _ _ _ m z1 z2 L1).mono ?_
        rintro e x4 ⟨rfl, n4, rfl⟩
        have m := m.drewN n4
        have hB := below_drewN hB n4
        generalize World.drewN _ n4 = x4 at *
        go_wp2_with fail
        refine (mPeak _ _ _ _ _ _ _ m).mono ?_
        rintro e x5 ⟨rfl, rfl⟩
        go_wp2_with fail
        refine (mPeak _ _ _ _ _ _ _ m).mono ?_
        rintro e x6 ⟨rfl, rfl⟩
        go_wp2_with fail
        refine (mUsed _ _ _ _ _ _ _ m).mono ?_
        rintro e x7 ⟨rfl, rfl⟩
        go_wp2_with fail
        refine (mPeak _ _ _ _ _ _ _ m).mono ?_
        rintro e x8 ⟨rfl, rfl⟩
        go_wp2_with fail
        go_roundw
        case rel => exact ⟨k + 1, p', by omega, by go_num, rfl, bt, u, rf, m, z1, z2, z3, z4, z5, hB⟩
        case measure => simp [intOf]; omega
      · refine (take_inv (HI.out.alloc _) (by omega) L1 hs).mono ?_
        rintro e x0 ⟨ok, p', rfl, hpp, bt, u, rf, m, z1, z2, z3, z4, z5, hB⟩
        go_wp2_with fail
        refine (mUsed _ _ _ _ _ _ _ m).mono ?_
        rintro e x1 ⟨rfl, rfl⟩
        go_wp2_with fail
        refine (mLeft _ _ _ _ _ _ _ m z1 z2 L1).mono ?_
        rintro e x2 ⟨rfl, n2, rfl⟩
        have m := m.drewN n2
        have hB := below_drewN hB n2
        generalize World.drewN _ n2 = x2 at *
        go_wp2_with fail
        refine (mUsed _ _ _ _ _ _ _ m).mono ?_
        rintro e x3 ⟨rfl, rfl⟩
        go_wp2_with fail
        refine (mLeft _ _ _ _ _ _ _ m z1 z2 L1).mono ?_
        rintro e x4 ⟨rfl, n4, rfl⟩
        have m := m.drewN n4
        have hB := below_drewN hB n4
        generalize World.drewN _ n4 = x4 at *
        go_wp2_with fail
        refine (mPeak _ _ _ _ _ _ _ m).mono ?_
        rintro e x5 ⟨rfl, rfl⟩
        go_wp2_with fail
        refine (mPeak _ _ _ _ _ _ _ m).mono ?_
        rintro e x6 ⟨rfl, rfl⟩
        go_wp2_with fail
        refine (mUsed _ _ _ _ _ _ _ m).mono ?_
        rintro e x7 ⟨rfl, rfl⟩
        go_wp2_with fail
        refine (mPeak _ _ _ _ _ _ _ m).mono ?_
        rintro e x8 ⟨rfl, rfl⟩
        go_wp2_with fail
        go_roundw
        case rel => exact ⟨k + 1, p', by omega, by go_num, rfl, bt, u, rf, m, z1, z2, z3, z4, z5, hB⟩
        case measure => simp [intOf]; omega
    · clear m0
      have HI := Lib.hid hI
      clear hI
      go_wp2_with fail
      go_ret
      obtain ⟨_, _, _, _, _, _, _, _, _, hB⟩ := HI.out
      exact ⟨rfl, hB⟩

set_option maxHeartbeats 400000 in
theorem bounds_pos (limit : Int) (b off len cap : Nat) (w : World) (hpos : 0 ≤ limit) (hlim : limit ≤ 9223372036854775807) (h0 : 0 < len) (h100 : len ≤ 100) (hO : Ops w b off len) :
    Calls Try.prog 4 #[.int .i64 limit, .slice (some ⟨b, off, none⟩) len cap] w fun e w' => e = .returned (.bool true) ∧ Below w.heap.size w w' := by
  have hbw : b < w.heap.size := by
    obtain ⟨g, n, hc, _⟩ := hO 0 h0
    exact World.block_lt_of_cell? w _ hc
  have hL : max limit 0 = limit := by omega
  have L0 : 0 ≤ limit := hpos
  have L1 : limit ≤ 9223372036854775807 := by omega
  go_enter Try.func4, Try.ntmps4
  go_wp2_with fail
  refine (wakes_yes _).mono ?_
  rintro e w0 ⟨rfl, b0⟩
  go_wp2_with fail
  refine (mNew limit _).mono ?_
  rintro e w1 ⟨rfl, rfl⟩
  rw [hL]
  have m0 := made_mt w0 limit
  have b1 : Below w.heap.size w (made w0 limit) := b0.trans ((made_below w0 limit).mono b0.size)
  have hs := b0.size
  clear hL
  generalize made w0 limit = w1 at *
  generalize w0.heap.size = bp at *
  go_wp2_with fail
  go_loopw [6, 20] (fun pk i wr => ∃ (k : Nat) (p : Int), k ≤ len ∧ i = .int .i64 k ∧ pk = .int .i64 p ∧ Inv w bp limit k p wr) (fun _ i _ => len - (intOf i).toNat)
  case atStart => exact ⟨0, 0, Nat.zero_le _, rfl, rfl, _, _, _, m0, by omega, L0, by omega, by omega, by omega, b1⟩
  case round =>
    obtain ⟨k, p, hk, rfl, rfl, hI⟩ := hrel
    by_cases hlt : k < len
    · obtain ⟨g, n, hcg, hcn, n1, n2⟩ := hO k hlt
      have hB0 : Below w.heap.size w wr := by
        obtain ⟨_, _, _, _, _, _, _, _, _, hB⟩ := hI
        exact hB
      have kg : wr.cell? ⟨b, off + k * 2, none⟩ = some (.bool g) := (hB0.cell (p := ⟨b, off + k * 2, none⟩) hbw).trans hcg
      have kn : wr.cell? ⟨b, off + k * 2 + 1, none⟩ = some (.int .i64 n) := (hB0.cell (p := ⟨b, off + k * 2 + 1, none⟩) hbw).trans hcn
      clear hcg hcn m0
      have HI := Lib.hid hI
      clear hI
      go_wp2_with fail
      · refine (give_inv (HI.out.alloc _) (by omega) L1 hs).mono ?_
        rintro e x0 ⟨ok, p', rfl, hpp, bt, u, rf, m, z1, z2, z3, z4, z5, hB⟩
        go_wp2_with fail
        refine (mUsed _ _ _ _ _ _ _ m).mono ?_
        rintro e x1 ⟨rfl, rfl⟩
        go_wp2_with fail
        refine (mLeft _ _ _ _ _ _ _ m z1 z2 L1).mono ?_
        rintro e x2 ⟨rfl, n2, rfl⟩
        have m := m.drewN n2
        have hB := below_drewN hB n2
        generalize World.drewN _ n2 = x2 at *
        go_wp2_with fail
        refine (mUsed _ _ _ _ _ _ _ m).mono ?_
        rintro e x3 ⟨rfl, rfl⟩
        go_wp2_with fail
        refine (mLeft _ _ _ _ _ _ _ m z1 z2 L1).mono ?_
        rintro e x4 ⟨rfl, n4, rfl⟩
        have m := m.drewN n4
        have hB := below_drewN hB n4
        generalize World.drewN _ n4 = x4 at *
        go_wp2_with fail
        refine (mPeak _ _ _ _ _ _ _ m).mono ?_
        rintro e x5 ⟨rfl, rfl⟩
        go_wp2_with fail
        refine (mPeak _ _ _ _ _ _ _ m).mono ?_
        rintro e x6 ⟨rfl, rfl⟩
        go_wp2_with fail
        refine (mUsed _ _ _ _ _ _ _ m).mono ?_
        rintro e x7 ⟨rfl, rfl⟩
        go_wp2_with fail
        refine (mPeak _ _ _ _ _ _ _ m).mono ?_
        rintro e x8 ⟨rfl, rfl⟩
        go_wp2_with fail
        go_roundw
        case rel => exact ⟨k + 1, p', by omega, by go_num, rfl, bt, u, rf, m, z1, z2, z3, z4, z5, hB⟩
        case measure => simp [intOf]; omega
      · refine (take_inv (HI.out.alloc _) (by omega) L1 hs).mono ?_
        rintro e x0 ⟨ok, p', rfl, hpp, bt, u, rf, m, z1, z2, z3, z4, z5, hB⟩
        go_wp2_with fail
        refine (mUsed _ _ _ _ _ _ _ m).mono ?_
        rintro e x1 ⟨rfl, rfl⟩
        go_wp2_with fail
        refine (mLeft _ _ _ _ _ _ _ m z1 z2 L1).mono ?_
        rintro e x2 ⟨rfl, n2, rfl⟩
        have m := m.drewN n2
        have hB := below_drewN hB n2
        generalize World.drewN _ n2 = x2 at *
        go_wp2_with fail
        refine (mUsed _ _ _ _ _ _ _ m).mono ?_
        rintro e x3 ⟨rfl, rfl⟩
        go_wp2_with fail
        refine (mLeft _ _ _ _ _ _ _ m z1 z2 L1).mono ?_
        rintro e x4 ⟨rfl, n4, rfl⟩
        have m := m.drewN n4
        have hB := below_drewN hB n4
        generalize World.drewN _ n4 = x4 at *
        go_wp2_with fail
        refine (mPeak _ _ _ _ _ _ _ m).mono ?_
        rintro e x5 ⟨rfl, rfl⟩
        go_wp2_with fail
        refine (mPeak _ _ _ _ _ _ _ m).mono ?_
        rintro e x6 ⟨rfl, rfl⟩
        go_wp2_with fail
        refine (mUsed _ _ _ _ _ _ _ m).mono ?_
        rintro e x7 ⟨rfl, rfl⟩
        go_wp2_with fail
        refine (mPeak _ _ _ _ _ _ _ m).mono ?_
        rintro e x8 ⟨rfl, rfl⟩
        go_wp2_with fail
        go_roundw
        case rel => exact ⟨k + 1, p', by omega, by go_num, rfl, bt, u, rf, m, z1, z2, z3, z4, z5, hB⟩
        case measure => simp [intOf]; omega
    · clear m0
      have HI := Lib.hid hI
      clear hI
      go_wp2_with fail
      go_ret
      obtain ⟨_, _, _, _, _, _, _, _, _, hB⟩ := HI.out
      exact ⟨rfl, hB⟩
end Go.Proofs.Ytnejgdbmjnhfiaa.Mtr
