/- The walk of UtfPuts. Nothing is claimed here. -/
import Derived.Test.YtheohchmjgmpnaaDoorUtfLawA
namespace Go.Proofs.YtheohchmjgmpnaaDoor.Utf
open Go.RowKit Kit Go.Shelf

theorem putL_bad {c : Int} (hc : ¬ (0 ≤ c ∧ c ≤ 1114111 ∧ (c < 55296 ∨ 57343 < c))) : putL c = [] := by unfold putL; rw [if_neg hc]

/-- A slice of one scalar, as a composite literal lays it. -/
theorem rd_one (w : World) (n : Nat) : Rd (w.alloc (.cells #[.int .i64 0, .int .i64 n] 31)) (.slice (some ⟨w.heap.size, 0, none⟩) 1 1) [(0, n)] := by
  refine ⟨_, 1, rfl, .inr ⟨w.heap.size, 0, rfl, by simp, fun i x hx => ?_⟩⟩
  match i, hx with
  | 0, hx =>
    simp only [List.getElem?_cons_zero, Option.some.injEq] at hx
    subst hx
    exact ⟨cell_of (World.alloc_heap_new w _) 0, cell_of (World.alloc_heap_new w _) 1⟩

set_option maxHeartbeats 2000000 in
theorem puts_law {w : World} {c : Int} (hl : Laid w) (h1 : -9223372036854775808 ≤ c) (h2 : c ≤ 9223372036854775807) : Calls Tryd.prog 3 #[.int .i64 c] w fun e w' => e = .returned (.bool true) ∧ Below w.heap.size w w' := by
  have hw := wakes_any hl
  by_cases hc : 0 ≤ c ∧ c ≤ 1114111 ∧ (c < 55296 ∨ 57343 < c)
  · obtain ⟨n, rfl⟩ := Int.eq_ofNat_of_zero_le hc.1
    have hsc : Scalar n := by unfold Scalar; omega
    have e0 := putL_of hsc
    have hel := enc_len (c := n)
    have hsz : (⟨(enc n).toArray⟩ : ByteArray).size = (enc n).length := by simp [ByteArray.size]
    have e1 : decide (badI (⟨(enc n).toArray⟩ : ByteArray).data.toList < 0) = true := by
      have : bad (enc n) = none := by unfold bad; rw [scan_one hsc]
      exact decide_eq_true ((badI_neg _).2 (by simpa using this))
    have e2 : all (⟨(enc n).toArray⟩ : ByteArray).data.toList = [(0, n)] := by
      have : all (enc n) = [(0, n)] := by unfold all; rw [scan_one hsc]
      simpa using this
    have e3 : (enc n).isEmpty = false := by cases h : enc n with
      | nil => rw [h] at hel; simp at hel
      | cons _ _ => rfl
    go_enter Tryd.func3, Tryd.ntmps3
    go_wp2_with fail
    refine hw.mono ?_
    rintro e w1 ⟨rfl, k1⟩
    have hl1 := hl.below k1 hl.lt
    have c1 := put_any (w := w1) h1 h2
    rw [e0, decide_eq_true hc] at c1
    go_wp2_with fail
    refine c1.mono ?_
    rintro e w1 ⟨rfl, rfl⟩
    go_wp2_with fail
    have c2 := rput_any (w := w1) h1 h2
    rw [e0] at c2
    refine c2.mono ?_
    rintro e w2 ⟨rfl, k2⟩
    have hl2 := hl1.below k2 hl1.lt
    have k12 := k1.trans (k2.mono k1.size)
    go_wp2_with fail
    have c3 := valid_any (w := w2) (s := ⟨(enc n).toArray⟩) (by omega) hl2
    rw [e1] at c3
    refine c3.mono ?_
    rintro e w3 ⟨rfl, k3⟩
    have hl3 := hl2.below k3 hl2.lt
    have k13 := k12.trans (k3.mono k12.size)
    go_wp2_with fail
    have c4 := told_any (w := w3) (s := ⟨(enc n).toArray⟩) (most := 9) (by omega) hl3
    rw [e2] at c4
    refine c4.mono ?_
    rintro e w4 ⟨v, rfl, ho, k4⟩
    have k14 := k13.trans (k4.mono k13.size)
    have ho' : w4.ownsRow w3.heap.size 31 2 v [(0, n)].length (cellsL [(0, n)]) := ho
    have r1 := (rd_of_own ho').below ((Below.refl _ w4).alloc (Nat.le_refl _) (.cells #[.int .i64 0, .int .i64 n] 31))
    have c5 := same_any r1 (rd_one w4 n) (by simp) (by simp)
    obtain ⟨va, vc, rfl⟩ := own_slice ho
    go_wp2_with fail
    refine c5.mono ?_
    rintro e w5 ⟨rfl, k5⟩
    go_wp2_with fail
    go_ret
    exact ⟨rfl, (k14.alloc k14.size _).trans (k5.mono (by simp; have := k14.size; omega))⟩
  · have e0 := putL_bad hc
    go_enter Tryd.func3, Tryd.ntmps3
    go_wp2_with fail
    refine hw.mono ?_
    rintro e w1 ⟨rfl, k1⟩
    have c1 := put_any (w := w1) h1 h2
    rw [e0, decide_eq_false hc] at c1
    go_wp2_with fail
    refine c1.mono ?_
    rintro e w1 ⟨rfl, rfl⟩
    have c2 := rput_any (w := w1) h1 h2
    rw [e0] at c2
    go_wp2_with fail
    refine c2.mono ?_
    rintro e w2 ⟨rfl, k2⟩
    go_wp2_with fail
    go_ret
    exact ⟨rfl, k1.trans (k2.mono k1.size)⟩
end Go.Proofs.YtheohchmjgmpnaaDoor.Utf
