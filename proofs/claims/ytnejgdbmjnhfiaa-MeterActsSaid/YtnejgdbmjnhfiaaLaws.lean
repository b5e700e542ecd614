/- Contracts of meter.New, of the document's own meter, and of what compares the two. Nothing is claimed here. -/
import Derived.Test.YtnejgdbmjnhfiaaStep
namespace Go.Proofs.Ytnejgdbmjnhfiaa.Mtr
open Go.RowKit Kit

/-- The world behind meter.New. -/
def made (w : World) (lim : Int) : World := (w.alloc (.cells #[.int .i64 lim, .pointer (some ⟨w.heap.size + 1, 0, none⟩)] 46)).alloc (.cells #[.int .i64 0, .int .i64 0, .int .i64 0] 49)

theorem made_mt (w : World) (lim : Int) : Mt (made w lim) w.heap.size (w.heap.size + 1) lim 0 0 0 := by
  refine ⟨?_, ?_⟩
  · unfold made
    rw [Below.heap_alloc _ _ _ (by simp)]
    show (Array.push _ _)[w.heap.size]? = _
    simp
  · show (Array.push _ _)[w.heap.size + 1]? = _
    rw [Array.getElem?_push, if_pos (by simp)]
theorem made_below (w : World) (lim : Int) : Below w.heap.size w (made w lim) := ((Below.refl _ _).alloc (Nat.le_refl _) _).alloc (by simp) _

theorem mNew (limit : Int) (w : World) :
    Calls Try.prog 8 #[.int .i64 limit] w fun e w' => e = .returned (.pointer (some ⟨w.heap.size, 0, none⟩)) ∧ made w (max limit 0) = w' := by
  unfold made
  by_cases hp : limit < 0
  · rw [show max limit 0 = 0 by omega]
    go_enter Try.func8, Try.ntmps8
    go_wp2_with fail
    refine (store_any (u := .pointer none) (v := .int .i64 0) (by go_simp) (by go_simp) (by go_simp)).mono ?_
    rintro e w2 ⟨rfl, rfl⟩
    go_wp2
    go_ret
    exact ⟨rfl, rfl⟩
  · rw [show max limit 0 = limit by omega]
    have hp' : 0 ≤ limit := by omega
    clear hp
    go_enter Try.func8, Try.ntmps8
    go_wp2_with fail
    refine (store_any (u := .pointer none) (v := .int .i64 0) (by go_simp) (by go_simp) (by go_simp)).mono ?_
    rintro e w2 ⟨rfl, rfl⟩
    go_wp2
    go_ret
    exact ⟨rfl, rfl⟩

theorem rNew (limit : Int) (w : World) :
    Calls Try.prog 9 #[.int .i64 limit] w fun e w' => e = .returned (.agg #[.int .i64 (max limit 0), .int .i64 0, .int .i64 0, .int .i64 0]) ∧ Below w.heap.size w w' := by
  by_cases hp : limit < 0
  · rw [show max limit 0 = 0 by omega]
    go_enter Try.func9, Try.ntmps9
    go_wp2
    refine bodyPost_ret (v := .agg #[.int .i64 0, .int .i64 0, .int .i64 0, .int .i64 0]) (by simp [results, Try.results9, go_sem]) rfl ⟨rfl, ?_⟩
    repeat (first | exact Below.refl _ _ | refine Below.setCell ?_ (by simp) _ | refine Below.alloc ?_ (by simp) _ | refine Below.drew ?_)
  · rw [show max limit 0 = limit by omega]
    have hp' : 0 ≤ limit := by omega
    clear hp
    go_enter Try.func9, Try.ntmps9
    go_wp2
    refine bodyPost_ret (v := .agg #[.int .i64 limit, .int .i64 0, .int .i64 0, .int .i64 0]) (by simp [results, Try.results9, go_sem]) rfl ⟨rfl, ?_⟩
    repeat (first | exact Below.refl _ _ | refine Below.setCell ?_ (by simp) _ | refine Below.alloc ?_ (by simp) _ | refine Below.drew ?_)

theorem rGive_yes (lim u pk rf n : Int) (w : World) (h0 : 0 ≤ n) (h1 : n ≤ u) (h2 : u ≤ 9223372036854775807) :
    Calls Try.prog 11 #[.agg #[.int .i64 lim, .int .i64 u, .int .i64 pk, .int .i64 rf], .int .i64 n] w fun e w' => e = .returned (.tuple #[.agg #[.int .i64 lim, .int .i64 (u - n), .int .i64 pk, .int .i64 rf], .bool true]) ∧ Below w.heap.size w w' := by
  go_enter Try.func11, Try.ntmps11
  go_wp2
  refine bodyPost_ret (v := .tuple #[.agg #[.int .i64 lim, .int .i64 (u - n), .int .i64 pk, .int .i64 rf], .bool true]) (by simp [results, Try.results11, go_sem]) rfl ⟨rfl, ?_⟩
  repeat (first | exact Below.refl _ _ | refine Below.setCell ?_ (by simp) _ | refine Below.alloc ?_ (by simp) _ | refine Below.drew ?_)

theorem rGive_no (lim u pk rf n : Int) (w : World) (hq : n < 0 ∨ u < n) (h0 : 0 ≤ rf) (h1 : rf < 9223372036854775807) :
    Calls Try.prog 11 #[.agg #[.int .i64 lim, .int .i64 u, .int .i64 pk, .int .i64 rf], .int .i64 n] w fun e w' => e = .returned (.tuple #[.agg #[.int .i64 lim, .int .i64 u, .int .i64 pk, .int .i64 (rf + 1)], .bool false]) ∧ Below w.heap.size w w' := by
  by_cases hn : n < 0
  · clear hq
    go_enter Try.func11, Try.ntmps11
    go_wp2
    refine bodyPost_ret (v := .tuple #[.agg #[.int .i64 lim, .int .i64 u, .int .i64 pk, .int .i64 (rf + 1)], .bool false]) (by simp [results, Try.results11, go_sem]) rfl ⟨rfl, ?_⟩
    repeat (first | exact Below.refl _ _ | refine Below.setCell ?_ (by simp) _ | refine Below.alloc ?_ (by simp) _ | refine Below.drew ?_)
  · have h' : u < n := by omega
    clear hq
    have hn' : 0 ≤ n := by omega
    clear hn
    go_enter Try.func11, Try.ntmps11
    go_wp2
    refine bodyPost_ret (v := .tuple #[.agg #[.int .i64 lim, .int .i64 u, .int .i64 pk, .int .i64 (rf + 1)], .bool false]) (by simp [results, Try.results11, go_sem]) rfl ⟨rfl, ?_⟩
    repeat (first | exact Below.refl _ _ | refine Below.setCell ?_ (by simp) _ | refine Below.alloc ?_ (by simp) _ | refine Below.drew ?_)

theorem rTake_yes (lim u pk rf n : Int) (w : World) (hu : 0 ≤ u) (h0 : 0 ≤ n) (h1 : n ≤ lim - u) (h2 : lim ≤ 9223372036854775807) :
    Calls Try.prog 13 #[.agg #[.int .i64 lim, .int .i64 u, .int .i64 pk, .int .i64 rf], .int .i64 n] w fun e w' => e = .returned (.tuple #[.agg #[.int .i64 lim, .int .i64 (u + n), .int .i64 (max pk (u + n)), .int .i64 rf], .bool true]) ∧ Below w.heap.size w w' := by
  by_cases hp : pk < u + n
  · rw [show max pk (u + n) = u + n by omega]
    go_enter Try.func13, Try.ntmps13
    go_wp2
    refine bodyPost_ret (v := .tuple #[.agg #[.int .i64 lim, .int .i64 (u + n), .int .i64 (u + n), .int .i64 rf], .bool true]) (by simp [results, Try.results13, go_sem]) rfl ⟨rfl, ?_⟩
    repeat (first | exact Below.refl _ _ | refine Below.setCell ?_ (by simp) _ | refine Below.alloc ?_ (by simp) _ | refine Below.drew ?_)
  · rw [show max pk (u + n) = pk by omega]
    have hp' : u + n ≤ pk := by omega
    clear hp
    go_enter Try.func13, Try.ntmps13
    go_wp2
    refine bodyPost_ret (v := .tuple #[.agg #[.int .i64 lim, .int .i64 (u + n), .int .i64 pk, .int .i64 rf], .bool true]) (by simp [results, Try.results13, go_sem]) rfl ⟨rfl, ?_⟩
    repeat (first | exact Below.refl _ _ | refine Below.setCell ?_ (by simp) _ | refine Below.alloc ?_ (by simp) _ | refine Below.drew ?_)

theorem rTake_no (lim u pk rf n : Int) (w : World) (hu : 0 ≤ u) (hl : u ≤ lim) (hq : n < 0 ∨ lim - u < n) (h2 : lim ≤ 9223372036854775807) (h0 : 0 ≤ rf) (h1 : rf < 9223372036854775807) :
    Calls Try.prog 13 #[.agg #[.int .i64 lim, .int .i64 u, .int .i64 pk, .int .i64 rf], .int .i64 n] w fun e w' => e = .returned (.tuple #[.agg #[.int .i64 lim, .int .i64 u, .int .i64 pk, .int .i64 (rf + 1)], .bool false]) ∧ Below w.heap.size w w' := by
  by_cases hn : n < 0
  · clear hq
    go_enter Try.func13, Try.ntmps13
    go_wp2
    refine bodyPost_ret (v := .tuple #[.agg #[.int .i64 lim, .int .i64 u, .int .i64 pk, .int .i64 (rf + 1)], .bool false]) (by simp [results, Try.results13, go_sem]) rfl ⟨rfl, ?_⟩
    repeat (first | exact Below.refl _ _ | refine Below.setCell ?_ (by simp) _ | refine Below.alloc ?_ (by simp) _ | refine Below.drew ?_)
  · have h' : lim - u < n := by omega
    clear hq
    have hn' : 0 ≤ n := by omega
    clear hn
    go_enter Try.func13, Try.ntmps13
    go_wp2
    refine bodyPost_ret (v := .tuple #[.agg #[.int .i64 lim, .int .i64 u, .int .i64 pk, .int .i64 (rf + 1)], .bool false]) (by simp [results, Try.results13, go_sem]) rfl ⟨rfl, ?_⟩
    repeat (first | exact Below.refl _ _ | refine Below.setCell ?_ (by simp) _ | refine Below.alloc ?_ (by simp) _ | refine Below.drew ?_)

theorem told_yes (bp bt : Nat) (lim u pk rf : Int) (w : World) (h : Mt w bp bt lim u pk rf) (hu : 0 ≤ u) (hl : u ≤ lim) (h2 : lim ≤ 9223372036854775807) :
    Calls Try.prog 10 #[.pointer (some ⟨bp, 0, none⟩), .agg #[.int .i64 lim, .int .i64 u, .int .i64 pk, .int .i64 rf]] w fun e w' => e = .returned (.bool true) ∧ Below w.heap.size w w' := by
  have hm := h.alloc (.cells #[.int .i64 lim, .int .i64 u, .int .i64 pk, .int .i64 rf] 27)
  have d1 : (u == u) = true := by simp
  have d2 : (lim - u == lim - u) = true := by simp
  have d3 : (pk == pk) = true := by simp
  have d4 : (rf == rf) = true := by simp
  go_enter Try.func10, Try.ntmps10
  go_wp2_with fail
  go_quiet ((first
    | (go_at_call 15; exact Calls.quiet_of ((mUsed _ _ _ _ _ _ _ (hm.drewN _)).mono fun _ _ ⟨he, hw⟩ => ⟨he, 0, hw.symm⟩))
    | (go_at_call 16; exact Calls.quiet_of (mLeft _ _ _ _ _ _ _ (hm.drewN _) hu hl h2))
    | (go_at_call 17; exact Calls.quiet_of ((mPeak _ _ _ _ _ _ _ (hm.drewN _)).mono fun _ _ ⟨he, hw⟩ => ⟨he, 0, hw.symm⟩))
    | (go_at_call 18; exact Calls.quiet_of ((mRefused _ _ _ _ _ _ _ (hm.drewN _)).mono fun _ _ ⟨he, hw⟩ => ⟨he, 0, hw.symm⟩))))
  go_wp2_with fail
  go_ret
  exact ⟨rfl, below_drewN ((Below.refl _ _).alloc (Nat.le_refl _) _) _⟩

theorem Mt.below {w w' : World} {bp bt : Nat} {lim u pk rf : Int} (h : Mt w bp bt lim u pk rf) (hb : Below w.heap.size w w') : Mt w' bp bt lim u pk rf :=
  ⟨(hb.block _ (lt_of_heap h.mh)).trans h.mh, (hb.block _ (lt_of_heap h.th)).trans h.th⟩

set_option maxHeartbeats 400000 in
theorem wakes_yes (w : World) : Calls Try.prog 7 #[] w fun e w' => e = .returned (.bool true) ∧ Below w.heap.size w w' := by
  go_enter Try.func7, Try.ntmps7
  go_wp2_with fail
  refine (mNew 5 _).mono ?_
  rintro e w1 ⟨rfl, rfl⟩
  have m0 := made_mt w (max 5 0)
  have b0 := made_below w (max 5 0)
  generalize made w (max 5 0) = w1 at *
  go_wp2_with fail
  refine (mTake_yes _ _ _ _ _ _ 3 _ m0 (by omega) (by omega) (by omega) (by omega)).mono ?_
  rintro e w2 ⟨rfl, bn, m1, g1⟩
  have b1 : Below w.heap.size w w2 := b0.trans (below_of_grown g1 b0.size (Nat.le_refl _))
  go_wp2_with fail
  refine (mTake_no _ _ _ _ _ _ 3 _ m1 (by omega) (by omega) (by omega) (by omega) (by omega) (by omega)).mono ?_
  rintro e w3 ⟨rfl, bn3, m2, g2⟩
  have b2 : Below w.heap.size w w3 := b1.trans (below_of_grown g2 b1.size (Nat.le_refl _))
  go_wp2_with fail
  refine (mLeft _ _ _ _ _ _ _ m2 (by omega) (by omega) (by omega)).mono ?_
  rintro e w4 ⟨rfl, n4, rfl⟩
  go_wp2_with fail
  refine (mRefused _ _ _ _ _ _ _ (m2.drewN _)).mono ?_
  rintro e w5 ⟨rfl, rfl⟩
  go_wp2_with fail
  go_ret
  exact ⟨rfl, below_drewN b2 _⟩
end Go.Proofs.Ytnejgdbmjnhfiaa.Mtr
