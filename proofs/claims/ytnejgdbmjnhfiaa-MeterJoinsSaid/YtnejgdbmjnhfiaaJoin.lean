/- The walk of tabulariumlaw01.MeterJoins: it answers true whatever its three numbers are. -/
import Derived.Test.YtnejgdbmjnhfiaaLaws
namespace Go.Proofs.Ytnejgdbmjnhfiaa.Mtr
open Go.RowKit Kit

/-- A meter is what it was behind a step of another one. -/
theorem Mt.other {w w' : World} {p pt q qt : Nat} {lim u pk rf lim' u' pk' rf' : Int} (hy : Mt w q qt lim u pk rf) (hx : Mt w p pt lim' u' pk' rf') (hpq : p ≠ q) (g : w.grownBy w' (some p)) : Mt w' q qt lim u pk rf := by
  refine ⟨(g.block _ (lt_of_heap hy.mh) (fun e => ?_)).trans hy.mh, (g.block _ (lt_of_heap hy.th) (fun e => ?_)).trans hy.th⟩
  · injection e with e
    exact hpq e.symm
  · injection e with e
    have h1 := hy.th
    rw [e, hx.mh] at h1
    simp at h1

set_option maxHeartbeats 400000 in
theorem join_1 (limit a b : Int) (w : World) (hlim : limit ≤ 9223372036854775807) (ha : a < 0) :
    Calls Try.prog 6 #[.int .i64 limit, .int .i64 a, .int .i64 b] w fun e w' => e = .returned (.bool true) ∧ Below w.heap.size w w' := by
  go_enter Try.func6, Try.ntmps6
  go_wp2_with fail
  refine (wakes_yes _).mono ?_
  rintro e w0 ⟨rfl, b0⟩
  go_wp2_with fail
  refine (mNew limit _).mono ?_
  rintro e w1 ⟨rfl, rfl⟩
  have x0 := made_mt w0 (max limit 0)
  have b1 : Below w.heap.size w (made w0 (max limit 0)) := b0.trans ((made_below w0 (max limit 0)).mono b0.size)
  have hs := b0.size
  go_wp2_with fail
  refine (mNew limit _).mono ?_
  rintro e w2 ⟨rfl, rfl⟩
  have _hlim := hlim
  have L0 : 0 ≤ max limit 0 := by omega
  have L1 : max limit 0 ≤ 9223372036854775807 := by omega
  generalize max limit 0 = L at *
  generalize made w0 L = w1 at *
  have x1 := x0.below (made_below w1 L)
  have y1 := made_mt w1 L
  have b2 : Below w.heap.size w (made w1 L) := b1.trans ((made_below w1 L).mono b1.size)
  have hpq : w0.heap.size < w1.heap.size := lt_of_heap x0.mh
  have ht : w.heap.size ≤ w1.heap.size := b1.size
  clear x0
  generalize made w1 L = w2 at *
  generalize w0.heap.size = bp at *
  generalize w1.heap.size = bq at *
  have hne : bp ≠ bq := by omega
  have hne' : bq ≠ bp := by omega
  clear hpq b0 b1
  go_wp2_with fail
  go_ret
  exact ⟨rfl, b2⟩

set_option maxHeartbeats 400000 in
theorem join_2 (limit a b : Int) (w : World) (hlim : limit ≤ 9223372036854775807) (ha : 0 ≤ a) (hb : b < 0) :
    Calls Try.prog 6 #[.int .i64 limit, .int .i64 a, .int .i64 b] w fun e w' => e = .returned (.bool true) ∧ Below w.heap.size w w' := by
  go_enter Try.func6, Try.ntmps6
  go_wp2_with fail
  refine (wakes_yes _).mono ?_
  rintro e w0 ⟨rfl, b0⟩
  go_wp2_with fail
  refine (mNew limit _).mono ?_
  rintro e w1 ⟨rfl, rfl⟩
  have x0 := made_mt w0 (max limit 0)
  have b1 : Below w.heap.size w (made w0 (max limit 0)) := b0.trans ((made_below w0 (max limit 0)).mono b0.size)
  have hs := b0.size
  go_wp2_with fail
  refine (mNew limit _).mono ?_
  rintro e w2 ⟨rfl, rfl⟩
  have _hlim := hlim
  have L0 : 0 ≤ max limit 0 := by omega
  have L1 : max limit 0 ≤ 9223372036854775807 := by omega
  generalize max limit 0 = L at *
  generalize made w0 L = w1 at *
  have x1 := x0.below (made_below w1 L)
  have y1 := made_mt w1 L
  have b2 : Below w.heap.size w (made w1 L) := b1.trans ((made_below w1 L).mono b1.size)
  have hpq : w0.heap.size < w1.heap.size := lt_of_heap x0.mh
  have ht : w.heap.size ≤ w1.heap.size := b1.size
  clear x0
  generalize made w1 L = w2 at *
  generalize w0.heap.size = bp at *
  generalize w1.heap.size = bq at *
  have hne : bp ≠ bq := by omega
  have hne' : bq ≠ bp := by omega
  clear hpq b0 b1
  go_wp2_with fail
  go_ret
  exact ⟨rfl, b2⟩

set_option maxHeartbeats 400000 in
theorem join_3 (limit a b : Int) (w : World) (hlim : limit ≤ 9223372036854775807) (ha : 0 ≤ a) (hb : 0 ≤ b) (ha2 : 1152921504606846976 < a) :
    Calls Try.prog 6 #[.int .i64 limit, .int .i64 a, .int .i64 b] w fun e w' => e = .returned (.bool true) ∧ Below w.heap.size w w' := by
  go_enter Try.func6, Try.ntmps6
  go_wp2_with fail
  refine (wakes_yes _).mono ?_
  rintro e w0 ⟨rfl, b0⟩
  go_wp2_with fail
  refine (mNew limit _).mono ?_
  rintro e w1 ⟨rfl, rfl⟩
  have x0 := made_mt w0 (max limit 0)
  have b1 : Below w.heap.size w (made w0 (max limit 0)) := b0.trans ((made_below w0 (max limit 0)).mono b0.size)
  have hs := b0.size
  go_wp2_with fail
  refine (mNew limit _).mono ?_
  rintro e w2 ⟨rfl, rfl⟩
  have _hlim := hlim
  have L0 : 0 ≤ max limit 0 := by omega
  have L1 : max limit 0 ≤ 9223372036854775807 := by omega
  generalize max limit 0 = L at *
  generalize made w0 L = w1 at *
  have x1 := x0.below (made_below w1 L)
  have y1 := made_mt w1 L
  have b2 : Below w.heap.size w (made w1 L) := b1.trans ((made_below w1 L).mono b1.size)
  have hpq : w0.heap.size < w1.heap.size := lt_of_heap x0.mh
  have ht : w.heap.size ≤ w1.heap.size := b1.size
  clear x0
  generalize made w1 L = w2 at *
  generalize w0.heap.size = bp at *
  generalize w1.heap.size = bq at *
  have hne : bp ≠ bq := by omega
  have hne' : bq ≠ bp := by omega
  clear hpq b0 b1
  go_wp2_with fail
  go_ret
  exact ⟨rfl, b2⟩

set_option maxHeartbeats 400000 in
theorem join_4 (limit a b : Int) (w : World) (hlim : limit ≤ 9223372036854775807) (ha : 0 ≤ a) (hb : 0 ≤ b) (ha2 : a ≤ 1152921504606846976) (hb2 : 1152921504606846976 < b) :
    Calls Try.prog 6 #[.int .i64 limit, .int .i64 a, .int .i64 b] w fun e w' => e = .returned (.bool true) ∧ Below w.heap.size w w' := by
  go_enter Try.func6, Try.ntmps6
  go_wp2_with fail
  refine (wakes_yes _).mono ?_
  rintro e w0 ⟨rfl, b0⟩
  go_wp2_with fail
  refine (mNew limit _).mono ?_
  rintro e w1 ⟨rfl, rfl⟩
  have x0 := made_mt w0 (max limit 0)
  have b1 : Below w.heap.size w (made w0 (max limit 0)) := b0.trans ((made_below w0 (max limit 0)).mono b0.size)
  have hs := b0.size
  go_wp2_with fail
  refine (mNew limit _).mono ?_
  rintro e w2 ⟨rfl, rfl⟩
  have _hlim := hlim
  have L0 : 0 ≤ max limit 0 := by omega
  have L1 : max limit 0 ≤ 9223372036854775807 := by omega
  generalize max limit 0 = L at *
  generalize made w0 L = w1 at *
  have x1 := x0.below (made_below w1 L)
  have y1 := made_mt w1 L
  have b2 : Below w.heap.size w (made w1 L) := b1.trans ((made_below w1 L).mono b1.size)
  have hpq : w0.heap.size < w1.heap.size := lt_of_heap x0.mh
  have ht : w.heap.size ≤ w1.heap.size := b1.size
  clear x0
  generalize made w1 L = w2 at *
  generalize w0.heap.size = bp at *
  generalize w1.heap.size = bq at *
  have hne : bp ≠ bq := by omega
  have hne' : bq ≠ bp := by omega
  clear hpq b0 b1
  go_wp2_with fail
  go_ret
  exact ⟨rfl, b2⟩

set_option maxHeartbeats 400000 in
theorem join_5 (limit a b : Int) (w : World) (hlim : limit ≤ 9223372036854775807) (ha : 0 ≤ a) (hb : 0 ≤ b) (ha2 : a ≤ 1152921504606846976) (hb2 : b ≤ 1152921504606846976) (h : a ≤ max limit 0) (hh : b ≤ max limit 0 - a) :
    Calls Try.prog 6 #[.int .i64 limit, .int .i64 a, .int .i64 b] w fun e w' => e = .returned (.bool true) ∧ Below w.heap.size w w' := by
  go_enter Try.func6, Try.ntmps6
  go_wp2_with fail
  refine (wakes_yes _).mono ?_
  rintro e w0 ⟨rfl, b0⟩
  go_wp2_with fail
  refine (mNew limit _).mono ?_
  rintro e w1 ⟨rfl, rfl⟩
  have x0 := made_mt w0 (max limit 0)
  have b1 : Below w.heap.size w (made w0 (max limit 0)) := b0.trans ((made_below w0 (max limit 0)).mono b0.size)
  have hs := b0.size
  go_wp2_with fail
  refine (mNew limit _).mono ?_
  rintro e w2 ⟨rfl, rfl⟩
  have _hlim := hlim
  have L0 : 0 ≤ max limit 0 := by omega
  have L1 : max limit 0 ≤ 9223372036854775807 := by omega
  generalize max limit 0 = L at *
  generalize made w0 L = w1 at *
  have x1 := x0.below (made_below w1 L)
  have y1 := made_mt w1 L
  have b2 : Below w.heap.size w (made w1 L) := b1.trans ((made_below w1 L).mono b1.size)
  have hpq : w0.heap.size < w1.heap.size := lt_of_heap x0.mh
  have ht : w.heap.size ≤ w1.heap.size := b1.size
  clear x0
  generalize made w1 L = w2 at *
  generalize w0.heap.size = bp at *
  generalize w1.heap.size = bq at *
  have hne : bp ≠ bq := by omega
  have hne' : bq ≠ bp := by omega
  clear hpq b0 b1
  go_wp2_with fail
  refine (mTake_yes _ _ _ _ _ _ a _ x1 (by omega) (by omega) (by omega) (by omega)).mono ?_
  rintro e w3 ⟨rfl, k1, q1, g1⟩
  have r1 := y1.other x1 hne g1
  have c1 := b2.trans (below_of_grown g1 b2.size hs)
  clear g1 x1 y1 b2
  go_wp2_with fail
  refine (mTake_yes _ _ _ _ _ _ b _ q1 (by omega) (by omega) (by omega) (by omega)).mono ?_
  rintro e w4 ⟨rfl, k2, q2, g2⟩
  have r2 := r1.other q1 hne g2
  have c2 := c1.trans (below_of_grown g2 c1.size hs)
  clear g2 q1 r1 c1
  go_wp2_with fail
  refine (mTake_yes _ _ _ _ _ _ (a + b) _ r2 (by omega) (by omega) (by omega) (by omega)).mono ?_
  rintro e w5 ⟨rfl, k3, q3, g3⟩
  have r3 := q2.other r2 hne' g3
  have c3 := c2.trans (below_of_grown g3 c2.size ht)
  clear g3 q2 r2 c2
  go_wp2_with fail
  refine (mUsed _ _ _ _ _ _ _ r3).mono ?_
  rintro e w6 ⟨rfl, rfl⟩
  go_wp2_with fail
  refine (mUsed _ _ _ _ _ _ _ q3).mono ?_
  rintro e w7 ⟨rfl, rfl⟩
  go_wp2_with fail
  refine (mLeft _ _ _ _ _ _ _ r3 (by omega) (by omega) (by omega)).mono ?_
  rintro e w8 ⟨rfl, n8, rfl⟩
  have u4 := r3.drewN n8
  have v4 := q3.drewN n8
  have c4 := below_drewN c3 n8
  clear r3 q3 c3
  generalize World.drewN _ n8 = w8 at *
  go_wp2_with fail
  refine (mLeft _ _ _ _ _ _ _ v4 (by omega) (by omega) (by omega)).mono ?_
  rintro e w9 ⟨rfl, n9, rfl⟩
  have u5 := u4.drewN n9
  have v5 := v4.drewN n9
  have c5 := below_drewN c4 n9
  clear u4 v4 c4
  generalize World.drewN _ n9 = w9 at *
  go_wp2_with fail
  go_ret
  exact ⟨rfl, c5⟩

set_option maxHeartbeats 400000 in
theorem join_6 (limit a b : Int) (w : World) (hlim : limit ≤ 9223372036854775807) (ha : 0 ≤ a) (hb : 0 ≤ b) (ha2 : a ≤ 1152921504606846976) (hb2 : b ≤ 1152921504606846976) (h : a ≤ max limit 0) (hh : max limit 0 - a < b) :
    Calls Try.prog 6 #[.int .i64 limit, .int .i64 a, .int .i64 b] w fun e w' => e = .returned (.bool true) ∧ Below w.heap.size w w' := by
  go_enter Try.func6, Try.ntmps6
  go_wp2_with fail
  refine (wakes_yes _).mono ?_
  rintro e w0 ⟨rfl, b0⟩
  go_wp2_with fail
  refine (mNew limit _).mono ?_
  rintro e w1 ⟨rfl, rfl⟩
  have x0 := made_mt w0 (max limit 0)
  have b1 : Below w.heap.size w (made w0 (max limit 0)) := b0.trans ((made_below w0 (max limit 0)).mono b0.size)
  have hs := b0.size
  go_wp2_with fail
  refine (mNew limit _).mono ?_
  rintro e w2 ⟨rfl, rfl⟩
  have _hlim := hlim
  have L0 : 0 ≤ max limit 0 := by omega
  have L1 : max limit 0 ≤ 9223372036854775807 := by omega
  generalize max limit 0 = L at *
  generalize made w0 L = w1 at *
  have x1 := x0.below (made_below w1 L)
  have y1 := made_mt w1 L
  have b2 : Below w.heap.size w (made w1 L) := b1.trans ((made_below w1 L).mono b1.size)
  have hpq : w0.heap.size < w1.heap.size := lt_of_heap x0.mh
  have ht : w.heap.size ≤ w1.heap.size := b1.size
  clear x0
  generalize made w1 L = w2 at *
  generalize w0.heap.size = bp at *
  generalize w1.heap.size = bq at *
  have hne : bp ≠ bq := by omega
  have hne' : bq ≠ bp := by omega
  clear hpq b0 b1
  go_wp2_with fail
  refine (mTake_yes _ _ _ _ _ _ a _ x1 (by omega) (by omega) (by omega) (by omega)).mono ?_
  rintro e w3 ⟨rfl, k1, q1, g1⟩
  have r1 := y1.other x1 hne g1
  have c1 := b2.trans (below_of_grown g1 b2.size hs)
  clear g1 x1 y1 b2
  go_wp2_with fail
  refine (mTake_no _ _ _ _ _ _ b _ q1 (by omega) (by omega) (by omega) (by omega) (by omega) (by omega)).mono ?_
  rintro e w4 ⟨rfl, k2, q2, g2⟩
  have r2 := r1.other q1 hne g2
  have c2 := c1.trans (below_of_grown g2 c1.size hs)
  clear g2 q1 r1 c1
  go_wp2_with fail
  refine (mTake_no _ _ _ _ _ _ (a + b) _ r2 (by omega) (by omega) (by omega) (by omega) (by omega) (by omega)).mono ?_
  rintro e w5 ⟨rfl, k3, q3, g3⟩
  have r3 := q2.other r2 hne' g3
  have c3 := c2.trans (below_of_grown g3 c2.size ht)
  clear g3 q2 r2 c2
  go_wp2_with fail
  refine (mUsed _ _ _ _ _ _ _ q3).mono ?_
  rintro e w6 ⟨rfl, rfl⟩
  go_wp2_with fail
  go_ret
  exact ⟨rfl, c3⟩

set_option maxHeartbeats 400000 in
theorem join_7 (limit a b : Int) (w : World) (hlim : limit ≤ 9223372036854775807) (ha : 0 ≤ a) (hb : 0 ≤ b) (ha2 : a ≤ 1152921504606846976) (hb2 : b ≤ 1152921504606846976) (h : max limit 0 < a) (hh : b ≤ max limit 0) :
    Calls Try.prog 6 #[.int .i64 limit, .int .i64 a, .int .i64 b] w fun e w' => e = .returned (.bool true) ∧ Below w.heap.size w w' := by
  go_enter Try.func6, Try.ntmps6
  go_wp2_with fail
  refine (wakes_yes _).mono ?_
  rintro e w0 ⟨rfl, b0⟩
  go_wp2_with fail
  refine (mNew limit _).mono ?_
  rintro e w1 ⟨rfl, rfl⟩
  have x0 := made_mt w0 (max limit 0)
  have b1 : Below w.heap.size w (made w0 (max limit 0)) := b0.trans ((made_below w0 (max limit 0)).mono b0.size)
  have hs := b0.size
  go_wp2_with fail
  refine (mNew limit _).mono ?_
  rintro e w2 ⟨rfl, rfl⟩
  have _hlim := hlim
  have L0 : 0 ≤ max limit 0 := by omega
  have L1 : max limit 0 ≤ 9223372036854775807 := by omega
  generalize max limit 0 = L at *
  generalize made w0 L = w1 at *
  have x1 := x0.below (made_below w1 L)
  have y1 := made_mt w1 L
  have b2 : Below w.heap.size w (made w1 L) := b1.trans ((made_below w1 L).mono b1.size)
  have hpq : w0.heap.size < w1.heap.size := lt_of_heap x0.mh
  have ht : w.heap.size ≤ w1.heap.size := b1.size
  clear x0
  generalize made w1 L = w2 at *
  generalize w0.heap.size = bp at *
  generalize w1.heap.size = bq at *
  have hne : bp ≠ bq := by omega
  have hne' : bq ≠ bp := by omega
  clear hpq b0 b1
  go_wp2_with fail
  refine (mTake_no _ _ _ _ _ _ a _ x1 (by omega) (by omega) (by omega) (by omega) (by omega) (by omega)).mono ?_
  rintro e w3 ⟨rfl, k1, q1, g1⟩
  have r1 := y1.other x1 hne g1
  have c1 := b2.trans (below_of_grown g1 b2.size hs)
  clear g1 x1 y1 b2
  go_wp2_with fail
  refine (mTake_yes _ _ _ _ _ _ b _ q1 (by omega) (by omega) (by omega) (by omega)).mono ?_
  rintro e w4 ⟨rfl, k2, q2, g2⟩
  have r2 := r1.other q1 hne g2
  have c2 := c1.trans (below_of_grown g2 c1.size hs)
  clear g2 q1 r1 c1
  go_wp2_with fail
  refine (mTake_no _ _ _ _ _ _ (a + b) _ r2 (by omega) (by omega) (by omega) (by omega) (by omega) (by omega)).mono ?_
  rintro e w5 ⟨rfl, k3, q3, g3⟩
  have r3 := q2.other r2 hne' g3
  have c3 := c2.trans (below_of_grown g3 c2.size ht)
  clear g3 q2 r2 c2
  go_wp2_with fail
  refine (mUsed _ _ _ _ _ _ _ q3).mono ?_
  rintro e w6 ⟨rfl, rfl⟩
  go_wp2_with fail
  go_ret
  exact ⟨rfl, c3⟩

set_option maxHeartbeats 400000 in
theorem join_8 (limit a b : Int) (w : World) (hlim : limit ≤ 9223372036854775807) (ha : 0 ≤ a) (hb : 0 ≤ b) (ha2 : a ≤ 1152921504606846976) (hb2 : b ≤ 1152921504606846976) (h : max limit 0 < a) (hh : max limit 0 < b) :
    Calls Try.prog 6 #[.int .i64 limit, .int .i64 a, .int .i64 b] w fun e w' => e = .returned (.bool true) ∧ Below w.heap.size w w' := by
  go_enter Try.func6, Try.ntmps6
  go_wp2_with fail
  refine (wakes_yes _).mono ?_
  rintro e w0 ⟨rfl, b0⟩
  go_wp2_with fail
  refine (mNew limit _).mono ?_
  rintro e w1 ⟨rfl, rfl⟩
  have x0 := made_mt w0 (max limit 0)
  have b1 : Below w.heap.size w (made w0 (max limit 0)) := b0.trans ((made_below w0 (max limit 0)).mono b0.size)
  have hs := b0.size
  go_wp2_with fail
  refine (mNew limit _).mono ?_
  rintro e w2 ⟨rfl, rfl⟩
  have _hlim := hlim
  have L0 : 0 ≤ max limit 0 := by omega
  have L1 : max limit 0 ≤ 9223372036854775807 := by omega
  generalize max limit 0 = L at *
  generalize made w0 L = w1 at *
  have x1 := x0.below (made_below w1 L)
  have y1 := made_mt w1 L
  have b2 : Below w.heap.size w (made w1 L) := b1.trans ((made_below w1 L).mono b1.size)
  have hpq : w0.heap.size < w1.heap.size := lt_of_heap x0.mh
  have ht : w.heap.size ≤ w1.heap.size := b1.size
  clear x0
  generalize made w1 L = w2 at *
  generalize w0.heap.size = bp at *
  generalize w1.heap.size = bq at *
  have hne : bp ≠ bq := by omega
  have hne' : bq ≠ bp := by omega
  clear hpq b0 b1
  go_wp2_with fail
  refine (mTake_no _ _ _ _ _ _ a _ x1 (by omega) (by omega) (by omega) (by omega) (by omega) (by omega)).mono ?_
  rintro e w3 ⟨rfl, k1, q1, g1⟩
  have r1 := y1.other x1 hne g1
  have c1 := b2.trans (below_of_grown g1 b2.size hs)
  clear g1 x1 y1 b2
  go_wp2_with fail
  refine (mTake_no _ _ _ _ _ _ b _ q1 (by omega) (by omega) (by omega) (by omega) (by omega) (by omega)).mono ?_
  rintro e w4 ⟨rfl, k2, q2, g2⟩
  have r2 := r1.other q1 hne g2
  have c2 := c1.trans (below_of_grown g2 c1.size hs)
  clear g2 q1 r1 c1
  go_wp2_with fail
  refine (mTake_no _ _ _ _ _ _ (a + b) _ r2 (by omega) (by omega) (by omega) (by omega) (by omega) (by omega)).mono ?_
  rintro e w5 ⟨rfl, k3, q3, g3⟩
  have r3 := q2.other r2 hne' g3
  have c3 := c2.trans (below_of_grown g3 c2.size ht)
  clear g3 q2 r2 c2
  go_wp2_with fail
  refine (mUsed _ _ _ _ _ _ _ q3).mono ?_
  rintro e w6 ⟨rfl, rfl⟩
  go_wp2_with fail
  go_ret
  exact ⟨rfl, c3⟩

theorem join_any (limit a b : Int) (w : World) (hlim : limit ≤ 9223372036854775807) :
    Calls Try.prog 6 #[.int .i64 limit, .int .i64 a, .int .i64 b] w fun e w' => e = .returned (.bool true) ∧ Below w.heap.size w w' := by
  by_cases h1 : a < 0
  · exact join_1 limit a b w hlim h1
  by_cases h2 : b < 0
  · exact join_2 limit a b w hlim (by omega) h2
  by_cases h3 : 1152921504606846976 < a
  · exact join_3 limit a b w hlim (by omega) (by omega) h3
  by_cases h4 : 1152921504606846976 < b
  · exact join_4 limit a b w hlim (by omega) (by omega) (by omega) h4
  by_cases h5 : max limit 0 < a
  · by_cases h6 : b ≤ max limit 0
    · exact join_7 limit a b w hlim (by omega) (by omega) (by omega) (by omega) h5 h6
    · exact join_8 limit a b w hlim (by omega) (by omega) (by omega) (by omega) h5 (by omega)
  by_cases h6 : max limit 0 - a < b
  · exact join_6 limit a b w hlim (by omega) (by omega) (by omega) (by omega) (by omega) h6
  · exact join_5 limit a b w hlim (by omega) (by omega) (by omega) (by omega) (by omega) (by omega)
end Go.Proofs.Ytnejgdbmjnhfiaa.Mtr
