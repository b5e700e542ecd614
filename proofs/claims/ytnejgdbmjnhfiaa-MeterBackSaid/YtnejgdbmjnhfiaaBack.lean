/- The walk of tabulariumlaw01.MeterBack: it answers true whatever its three numbers are. -/
import Derived.Test.YtnejgdbmjnhfiaaLaws
namespace Go.Proofs.Ytnejgdbmjnhfiaa.Mtr
open Go.RowKit Kit

set_option maxHeartbeats 400000 in
theorem back_1 (limit a b : Int) (w : World) (hlim : limit ≤ 9223372036854775807) (ha : a < 0) :
    Calls Try.prog 5 #[.int .i64 limit, .int .i64 a, .int .i64 b] w fun e w' => e = .returned (.bool true) ∧ Below w.heap.size w w' := by
  go_enter Try.func5, Try.ntmps5
  go_wp2_with fail
  refine (wakes_yes _).mono ?_
  rintro e w0 ⟨rfl, b0⟩
  go_wp2_with fail
  refine (mNew limit _).mono ?_
  rintro e w1 ⟨rfl, rfl⟩
  have m0 := made_mt w0 (max limit 0)
  have b1 : Below w.heap.size w (made w0 (max limit 0)) := b0.trans ((made_below w0 (max limit 0)).mono b0.size)
  have hs := b0.size
  have _hlim := hlim
  have L0 : 0 ≤ max limit 0 := by omega
  have L1 : max limit 0 ≤ 9223372036854775807 := by omega
  generalize max limit 0 = L at *
  generalize made w0 L = w1 at *
  generalize w0.heap.size = bp at *
  go_wp2_with fail
  go_ret
  exact ⟨rfl, b1⟩


set_option maxHeartbeats 400000 in
theorem back_2 (limit a b : Int) (w : World) (hlim : limit ≤ 9223372036854775807) (ha : 0 ≤ a) (hb : 0 ≤ b) (ha2 : a ≤ 1152921504606846976) (hb2 : b ≤ 1152921504606846976) (h : max limit 0 < a) :
    Calls Try.prog 5 #[.int .i64 limit, .int .i64 a, .int .i64 b] w fun e w' => e = .returned (.bool true) ∧ Below w.heap.size w w' := by
  go_enter Try.func5, Try.ntmps5
  go_wp2_with fail
  refine (wakes_yes _).mono ?_
  rintro e w0 ⟨rfl, b0⟩
  go_wp2_with fail
  refine (mNew limit _).mono ?_
  rintro e w1 ⟨rfl, rfl⟩
  have m0 := made_mt w0 (max limit 0)
  have b1 : Below w.heap.size w (made w0 (max limit 0)) := b0.trans ((made_below w0 (max limit 0)).mono b0.size)
  have hs := b0.size
  have _hlim := hlim
  have L0 : 0 ≤ max limit 0 := by omega
  have L1 : max limit 0 ≤ 9223372036854775807 := by omega
  generalize max limit 0 = L at *
  generalize made w0 L = w1 at *
  generalize w0.heap.size = bp at *
  go_wp2_with fail
  refine (mLeft _ _ _ _ _ _ _ m0 (by omega) (by omega) (by omega)).mono ?_
  rintro e w2 ⟨rfl, n2, rfl⟩
  have m0d := m0.drewN n2
  have b1d := below_drewN b1 n2
  generalize World.drewN _ n2 = w2 at *
  go_wp2_with fail
  refine (mTake_no _ _ _ _ _ _ a _ m0d (by omega) (by omega) (by omega) (by omega) (by omega) (by omega)).mono ?_
  rintro e w3 ⟨rfl, k1, q1, g1⟩
  have c1 := b1d.trans (below_of_grown g1 b1d.size hs)
  go_wp2_with fail
  refine (mLeft _ _ _ _ _ _ _ q1 (by omega) (by omega) (by omega)).mono ?_
  rintro e w4 ⟨rfl, n4, rfl⟩
  have q1d := q1.drewN n4
  have c1d := below_drewN c1 n4
  generalize World.drewN _ n4 = w4 at *
  go_wp2_with fail
  go_ret
  exact ⟨rfl, c1d⟩

set_option maxHeartbeats 400000 in
theorem back_3 (limit a b : Int) (w : World) (hlim : limit ≤ 9223372036854775807) (ha : 0 ≤ a) (hb : 0 ≤ b) (ha2 : a ≤ 1152921504606846976) (hb2 : b ≤ 1152921504606846976) (h : a ≤ max limit 0) (hh : max limit 0 - a < b) :
    Calls Try.prog 5 #[.int .i64 limit, .int .i64 a, .int .i64 b] w fun e w' => e = .returned (.bool true) ∧ Below w.heap.size w w' := by
  go_enter Try.func5, Try.ntmps5
  go_wp2_with fail
  refine (wakes_yes _).mono ?_
  rintro e w0 ⟨rfl, b0⟩
  go_wp2_with fail
  refine (mNew limit _).mono ?_
  rintro e w1 ⟨rfl, rfl⟩
  have m0 := made_mt w0 (max limit 0)
  have b1 : Below w.heap.size w (made w0 (max limit 0)) := b0.trans ((made_below w0 (max limit 0)).mono b0.size)
  have hs := b0.size
  have _hlim := hlim
  have L0 : 0 ≤ max limit 0 := by omega
  have L1 : max limit 0 ≤ 9223372036854775807 := by omega
  generalize max limit 0 = L at *
  generalize made w0 L = w1 at *
  generalize w0.heap.size = bp at *
  go_wp2_with fail
  refine (mLeft _ _ _ _ _ _ _ m0 (by omega) (by omega) (by omega)).mono ?_
  rintro e w2 ⟨rfl, n2, rfl⟩
  have m0d := m0.drewN n2
  have b1d := below_drewN b1 n2
  generalize World.drewN _ n2 = w2 at *
  go_wp2_with fail
  refine (mTake_yes _ _ _ _ _ _ a _ m0d (by omega) (by omega) (by omega) (by omega)).mono ?_
  rintro e w3 ⟨rfl, k1, q1, g1⟩
  have c1 := b1d.trans (below_of_grown g1 b1d.size hs)
  go_wp2_with fail
  refine (mTake_no _ _ _ _ _ _ b _ q1 (by omega) (by omega) (by omega) (by omega) (by omega) (by omega)).mono ?_
  rintro e w4 ⟨rfl, k2, q2, g2⟩
  have c2 := c1.trans (below_of_grown g2 c1.size hs)
  go_wp2_with fail
  refine (mGive_yes _ _ _ _ _ _ a _ q2 (by omega) (by omega) (by omega)).mono ?_
  rintro e w5 ⟨rfl, k3, q3, g3⟩
  have c3 := c2.trans (below_of_grown g3 c2.size hs)
  go_wp2_with fail
  refine (mLeft _ _ _ _ _ _ _ q3 (by omega) (by omega) (by omega)).mono ?_
  rintro e w6 ⟨rfl, n6, rfl⟩
  have q3d := q3.drewN n6
  have c3d := below_drewN c3 n6
  generalize World.drewN _ n6 = w6 at *
  go_wp2_with fail
  go_ret
  exact ⟨rfl, c3d⟩

set_option maxHeartbeats 400000 in
theorem back_4 (limit a b : Int) (w : World) (hlim : limit ≤ 9223372036854775807) (ha : 0 ≤ a) (hb : 0 ≤ b) (ha2 : a ≤ 1152921504606846976) (hb2 : b ≤ 1152921504606846976) (h : a ≤ max limit 0) (hh : b ≤ max limit 0 - a) :
    Calls Try.prog 5 #[.int .i64 limit, .int .i64 a, .int .i64 b] w fun e w' => e = .returned (.bool true) ∧ Below w.heap.size w w' := by
  go_enter Try.func5, Try.ntmps5
  go_wp2_with fail
  refine (wakes_yes _).mono ?_
  rintro e w0 ⟨rfl, b0⟩
  go_wp2_with fail
  refine (mNew limit _).mono ?_
  rintro e w1 ⟨rfl, rfl⟩
  have m0 := made_mt w0 (max limit 0)
  have b1 : Below w.heap.size w (made w0 (max limit 0)) := b0.trans ((made_below w0 (max limit 0)).mono b0.size)
  have hs := b0.size
  have _hlim := hlim
  have L0 : 0 ≤ max limit 0 := by omega
  have L1 : max limit 0 ≤ 9223372036854775807 := by omega
  generalize max limit 0 = L at *
  generalize made w0 L = w1 at *
  generalize w0.heap.size = bp at *
  go_wp2_with fail
  refine (mLeft _ _ _ _ _ _ _ m0 (by omega) (by omega) (by omega)).mono ?_
  rintro e w2 ⟨rfl, n2, rfl⟩
  have m0d := m0.drewN n2
  have b1d := below_drewN b1 n2
  generalize World.drewN _ n2 = w2 at *
  go_wp2_with fail
  refine (mTake_yes _ _ _ _ _ _ a _ m0d (by omega) (by omega) (by omega) (by omega)).mono ?_
  rintro e w3 ⟨rfl, k1, q1, g1⟩
  have c1 := b1d.trans (below_of_grown g1 b1d.size hs)
  go_wp2_with fail
  refine (mTake_yes _ _ _ _ _ _ b _ q1 (by omega) (by omega) (by omega) (by omega)).mono ?_
  rintro e w4 ⟨rfl, k2, q2, g2⟩
  have c2 := c1.trans (below_of_grown g2 c1.size hs)
  go_wp2_with fail
  refine (mGive_yes _ _ _ _ _ _ (a + b) _ q2 (by omega) (by omega) (by omega)).mono ?_
  rintro e w5 ⟨rfl, k3, q3, g3⟩
  have c3 := c2.trans (below_of_grown g3 c2.size hs)
  go_wp2_with fail
  refine (mLeft _ _ _ _ _ _ _ q3 (by omega) (by omega) (by omega)).mono ?_
  rintro e w6 ⟨rfl, n6, rfl⟩
  have q3d := q3.drewN n6
  have c3d := below_drewN c3 n6
  generalize World.drewN _ n6 = w6 at *
  go_wp2_with fail
  refine (mGive_no _ _ _ _ _ _ 1 _ q3d (by omega) (by omega) (by omega)).mono ?_
  rintro e w7 ⟨rfl, k4, q4, g4⟩
  have c4 := c3d.trans (below_of_grown g4 c3d.size hs)
  go_wp2_with fail
  refine (mPeak _ _ _ _ _ _ _ q4).mono ?_
  rintro e w8 ⟨rfl, rfl⟩
  go_wp2_with fail
  go_ret
  refine ⟨?_, c4⟩
  show Ending.returned (Value.bool (max 0 (max a (a + b)) == a + b)) = _
  rw [show max 0 (max a (a + b)) = a + b by omega]
  simp

set_option maxHeartbeats 400000 in
theorem back_5 (limit a b : Int) (w : World) (hlim : limit ≤ 9223372036854775807) (ha : 0 ≤ a) (hb : b < 0) :
    Calls Try.prog 5 #[.int .i64 limit, .int .i64 a, .int .i64 b] w fun e w' => e = .returned (.bool true) ∧ Below w.heap.size w w' := by
  go_enter Try.func5, Try.ntmps5
  go_wp2_with fail
  refine (wakes_yes _).mono ?_
  rintro e w0 ⟨rfl, b0⟩
  go_wp2_with fail
  refine (mNew limit _).mono ?_
  rintro e w1 ⟨rfl, rfl⟩
  have m0 := made_mt w0 (max limit 0)
  have b1 : Below w.heap.size w (made w0 (max limit 0)) := b0.trans ((made_below w0 (max limit 0)).mono b0.size)
  have hs := b0.size
  have _hlim := hlim
  have L0 : 0 ≤ max limit 0 := by omega
  have L1 : max limit 0 ≤ 9223372036854775807 := by omega
  generalize max limit 0 = L at *
  generalize made w0 L = w1 at *
  generalize w0.heap.size = bp at *
  go_wp2_with fail
  go_ret
  exact ⟨rfl, b1⟩

set_option maxHeartbeats 400000 in
theorem back_6 (limit a b : Int) (w : World) (hlim : limit ≤ 9223372036854775807) (ha : 0 ≤ a) (hb : 0 ≤ b) (ha2 : 1152921504606846976 < a) :
    Calls Try.prog 5 #[.int .i64 limit, .int .i64 a, .int .i64 b] w fun e w' => e = .returned (.bool true) ∧ Below w.heap.size w w' := by
  go_enter Try.func5, Try.ntmps5
  go_wp2_with fail
  refine (wakes_yes _).mono ?_
  rintro e w0 ⟨rfl, b0⟩
  go_wp2_with fail
  refine (mNew limit _).mono ?_
  rintro e w1 ⟨rfl, rfl⟩
  have m0 := made_mt w0 (max limit 0)
  have b1 : Below w.heap.size w (made w0 (max limit 0)) := b0.trans ((made_below w0 (max limit 0)).mono b0.size)
  have hs := b0.size
  have _hlim := hlim
  have L0 : 0 ≤ max limit 0 := by omega
  have L1 : max limit 0 ≤ 9223372036854775807 := by omega
  generalize max limit 0 = L at *
  generalize made w0 L = w1 at *
  generalize w0.heap.size = bp at *
  go_wp2_with fail
  go_ret
  exact ⟨rfl, b1⟩

set_option maxHeartbeats 400000 in
theorem back_7 (limit a b : Int) (w : World) (hlim : limit ≤ 9223372036854775807) (ha : 0 ≤ a) (hb : 0 ≤ b) (ha2 : a ≤ 1152921504606846976) (hb2 : 1152921504606846976 < b) :
    Calls Try.prog 5 #[.int .i64 limit, .int .i64 a, .int .i64 b] w fun e w' => e = .returned (.bool true) ∧ Below w.heap.size w w' := by
  go_enter Try.func5, Try.ntmps5
  go_wp2_with fail
  refine (wakes_yes _).mono ?_
  rintro e w0 ⟨rfl, b0⟩
  go_wp2_with fail
  refine (mNew limit _).mono ?_
  rintro e w1 ⟨rfl, rfl⟩
  have m0 := made_mt w0 (max limit 0)
  have b1 : Below w.heap.size w (made w0 (max limit 0)) := b0.trans ((made_below w0 (max limit 0)).mono b0.size)
  have hs := b0.size
  have _hlim := hlim
  have L0 : 0 ≤ max limit 0 := by omega
  have L1 : max limit 0 ≤ 9223372036854775807 := by omega
  generalize max limit 0 = L at *
  generalize made w0 L = w1 at *
  generalize w0.heap.size = bp at *
  go_wp2_with fail
  go_ret
  exact ⟨rfl, b1⟩

theorem back_any (limit a b : Int) (w : World) (hlim : limit ≤ 9223372036854775807) :
    Calls Try.prog 5 #[.int .i64 limit, .int .i64 a, .int .i64 b] w fun e w' => e = .returned (.bool true) ∧ Below w.heap.size w w' := by
  by_cases h1 : a < 0
  · exact back_1 limit a b w hlim h1
  by_cases h2 : b < 0
  · exact back_5 limit a b w hlim (by omega) h2
  by_cases h3 : 1152921504606846976 < a
  · exact back_6 limit a b w hlim (by omega) (by omega) h3
  by_cases h4 : 1152921504606846976 < b
  · exact back_7 limit a b w hlim (by omega) (by omega) (by omega) h4
  by_cases h5 : max limit 0 < a
  · exact back_2 limit a b w hlim (by omega) (by omega) (by omega) (by omega) h5
  by_cases h6 : max limit 0 - a < b
  · exact back_3 limit a b w hlim (by omega) (by omega) (by omega) (by omega) (by omega) h6
  · exact back_4 limit a b w hlim (by omega) (by omega) (by omega) (by omega) (by omega) (by omega)
end Go.Proofs.Ytnejgdbmjnhfiaa.Mtr
