/- The examples that the laws of layer 2 ask first (wakes), and the walk of UtfValid. Nothing is claimed here. -/
import Derived.Test.YtheohchmjgmpnaaDoorUtfTold
import Derived.Test.YtheohchmjgmpnaaDoorUtfSame
namespace Go.Proofs.YtheohchmjgmpnaaDoor.Utf
open Go.RowKit Kit Go.Shelf

theorem badI_zero {l : List UInt8} (h : l ≠ []) (h0 : (one l).2 = 0) : badI l = 0 := by
  unfold badI bad
  rw [scan_bad h h0]
  rfl

set_option maxHeartbeats 1000000 in
theorem wakes_any {w : World} (hl : Laid w) : Calls Tryd.prog 8 #[] w fun e w' => e = .returned (.bool true) ∧ Below w.heap.size w w' := by
  have p := put_any (w := w) (c := 8364) (by decide) (by decide)
  rw [show putL 8364 = [226, 130, 172] from rfl] at p
  have b1 : ∀ wx, Laid wx → Calls Tryd.prog 16 #[.string ⟨#[192, 128]⟩] wx fun e w' => e = .returned (.int .i64 0) ∧ Below wx.heap.size wx w' := fun wx h => by
    have := bad_any (w := wx) (s := ⟨#[192, 128]⟩) (by decide) h
    rwa [badI_zero (by decide) (by decide)] at this
  have b2 : ∀ wx, Laid wx → Calls Tryd.prog 16 #[.string ⟨#[237, 160, 128]⟩] wx fun e w' => e = .returned (.int .i64 0) ∧ Below wx.heap.size wx w' := fun wx h => by
    have := bad_any (w := wx) (s := ⟨#[237, 160, 128]⟩) (by decide) h
    rwa [badI_zero (by decide) (by decide)] at this
  have b3 : ∀ wx, Laid wx → Calls Tryd.prog 16 #[.string ⟨#[244, 144, 128, 128]⟩] wx fun e w' => e = .returned (.int .i64 0) ∧ Below wx.heap.size wx w' := fun wx h => by
    have := bad_any (w := wx) (s := ⟨#[244, 144, 128, 128]⟩) (by decide) h
    rwa [badI_zero (by decide) (by decide)] at this
  go_enter Tryd.func8, Tryd.ntmps8
  go_wp2_with fail
  refine p.mono ?_
  rintro e w1 ⟨rfl, rfl⟩
  go_wp2_with fail
  refine (b1 _ hl).mono ?_
  rintro e w2 ⟨rfl, k2⟩
  have hl2 := hl.below k2 hl.lt
  go_wp2_with fail
  refine (b2 _ hl2).mono ?_
  rintro e w3 ⟨rfl, k3⟩
  have hl3 := hl2.below k3 hl2.lt
  go_wp2_with fail
  refine (b3 _ hl3).mono ?_
  rintro e w4 ⟨rfl, k4⟩
  go_wp2_with fail
  go_ret
  have k23 := k2.trans (k3.mono k2.size)
  exact ⟨rfl, k23.trans (k4.mono k23.size)⟩

set_option maxHeartbeats 1000000 in
theorem valid_law {w : World} {s : ByteArray} (hl : Laid w) : Calls Tryd.prog 4 #[.string s] w fun e w' => e = .returned (.bool true) ∧ Below w.heap.size w w' := by
  have hw := wakes_any hl
  by_cases hs : 1000 < s.size
  · have hs' : (1000 : Int) < (s.size : Int) := by omega
    go_enter Tryd.func4, Tryd.ntmps4
    go_wp2_with fail
    refine hw.mono ?_
    rintro e w1 ⟨rfl, k1⟩
    go_wp2_with fail
    go_ret
    exact ⟨rfl, k1⟩
  · have hs' : decide ((1000 : Int) < (s.size : Int)) = false := by simp; omega
    have hs9 : s.size < 1000000000 := by omega
    have hs4 : s.size < 4611686018427387904 := by omega
    cases hbad : bad s.data.toList with
    | none =>
      have e1 : badI s.data.toList = -1 := by unfold badI; rw [hbad]
      have e2 : countV s.data.toList = .tuple #[.int .i64 (all s.data.toList).length, .bool true] := by unfold countV; rw [if_pos hbad, decide_eq_true hbad]
      have e3 : decide (badI s.data.toList < 0) = true := by rw [e1]; rfl
      clear hbad
      go_enter Tryd.func4, Tryd.ntmps4
      go_wp2_with fail
      refine hw.mono ?_
      rintro e w1 ⟨rfl, k1⟩
      have hl1 := hl.below k1 hl.lt
      have c1 := rbad_any (w := w1) hs4
      rw [e1] at c1
      go_wp2_with fail
      refine c1.mono ?_
      rintro e w2 ⟨rfl, k2⟩
      have hl2 := hl1.below k2 hl1.lt
      have k12 := k1.trans (k2.mono k1.size)
      have c2 := count_any (w := w2) hs4 hl2
      rw [e2] at c2
      go_wp2_with fail
      refine c2.mono ?_
      rintro e w3 ⟨rfl, k3⟩
      have hl3 := hl2.below k3 hl2.lt
      have k13 := k12.trans (k3.mono k12.size)
      have c3 := bad_any (w := w3) hs4 hl3
      rw [e1] at c3
      go_wp2_with fail
      refine c3.mono ?_
      rintro e w4 ⟨rfl, k4⟩
      have hl4 := hl3.below k4 hl3.lt
      have k14 := k13.trans (k4.mono k13.size)
      have c4 := valid_any (w := w4) hs4 hl4
      rw [e3] at c4
      go_wp2_with fail
      refine c4.mono ?_
      rintro e w5 ⟨rfl, k5⟩
      have k15 := k14.trans (k5.mono k14.size)
      go_wp2_with fail
      refine (rall_any hs9).mono ?_
      rintro e w6 ⟨v, rfl, ho, k6⟩
      obtain ⟨va, vc, rfl⟩ := own_slice ho
      go_wp2_with fail
      go_ret
      exact ⟨rfl, k15.trans (k6.mono k15.size)⟩
    | some p =>
      have e1 : badI s.data.toList = (p : Int) := by unfold badI; rw [hbad]
      have hbn : bad s.data.toList ≠ none := by rw [hbad]; simp
      have e2 : countV s.data.toList = .tuple #[.int .i64 0, .bool false] := by unfold countV; rw [if_neg hbn, decide_eq_false hbn]; rfl
      have e3 : decide (badI s.data.toList < 0) = false := by rw [e1]; simp
      clear hbad hbn
      go_enter Tryd.func4, Tryd.ntmps4
      go_wp2_with fail
      refine hw.mono ?_
      rintro e w1 ⟨rfl, k1⟩
      have hl1 := hl.below k1 hl.lt
      have c1 := rbad_any (w := w1) hs4
      rw [e1] at c1
      go_wp2_with fail
      refine c1.mono ?_
      rintro e w2 ⟨rfl, k2⟩
      have hl2 := hl1.below k2 hl1.lt
      have k12 := k1.trans (k2.mono k1.size)
      have c2 := count_any (w := w2) hs4 hl2
      rw [e2] at c2
      go_wp2_with fail
      refine c2.mono ?_
      rintro e w3 ⟨rfl, k3⟩
      have hl3 := hl2.below k3 hl2.lt
      have k13 := k12.trans (k3.mono k12.size)
      have c3 := bad_any (w := w3) hs4 hl3
      rw [e1] at c3
      go_wp2_with fail
      refine c3.mono ?_
      rintro e w4 ⟨rfl, k4⟩
      have hl4 := hl3.below k4 hl3.lt
      have k14 := k13.trans (k4.mono k13.size)
      have c4 := valid_any (w := w4) hs4 hl4
      rw [e3] at c4
      go_wp2_with fail
      refine c4.mono ?_
      rintro e w5 ⟨rfl, k5⟩
      have k15 := k14.trans (k5.mono k14.size)
      go_wp2_with fail
      go_ret
      exact ⟨rfl, k15⟩
end Go.Proofs.YtheohchmjgmpnaaDoor.Utf
