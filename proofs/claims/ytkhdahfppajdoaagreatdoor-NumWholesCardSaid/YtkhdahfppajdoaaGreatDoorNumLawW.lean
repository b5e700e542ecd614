/- The walk of NumWholes, over the contracts of package num (XNumFn, XNumFnW). Nothing is claimed here. -/
import Derived.Test.YtkhdahfppajdoaaGreatDoorNumWakes
import Derived.Test.YtkhdahfppajdoaaGreatDoorNumFnW
namespace Go.Proofs.YtkhdahfppajdoaaGreatDoor.Num
open Go.RowKit Kit

theorem ofN_len {v : Nat} (h : v ≤ 18446744073709551615) : (ofN v).dig.length ≤ 1000 := by
  have hw := (ofN_whole h).1
  unfold whole at hw
  split at hw
  · rename_i hh
    exact (right_exp hh.1).2.2.1
  · injection hw with h1 h2
    cases h2

set_option maxRecDepth 100000 in
set_option maxHeartbeats 2000000 in
theorem wholes_law {w : World} {n : Dec} {v : Nat} (ho : OkW w) (hv : v ≤ 18446744073709551615) : Calls Tryz.prog 3 #[numV n, .int .u64 v] w fun e w' => e = .returned (.bool true) ∧ Below w.heap.size w w' := by
  have hS := box_new w (.bool n.neg) (.string (txt n.dig)) (.int .i64 n.exp)
  have hw := wakes_any (ho.1.below hS.2.2.2)
  have hs := txt_size n.dig
  by_cases hl : 1200 < n.dig.length
  · have hl' : (1200 : Int) < (n.dig.length : Int) := by omega
    simp only [numV]
    go_enter Tryz.func3, Tryz.ntmps3
    go_wp2_with fail
    refine hw.mono ?_
    rintro e w1 ⟨rfl, k1⟩
    obtain ⟨x0, x1, x2, b1⟩ := box_step (w := w) hS k1
    go_wp2_with fail
    go_ret
    exact ⟨rfl, b1⟩
  · have hl' : decide ((1200 : Int) < (n.dig.length : Int)) = false := by simp; omega
    have hn := fun wx (h : OkW wx) => nwhole_any h (n := n) (by omega)
    have hr := fun wx => rwhole_any (w := wx) (n := n) (by omega)
    have ho1 := fun wx (h : OkW wx) => nof_any h.1 (v := v) (by omega)
    have ho2 := fun wx => rof_any (w := wx) (v := v) (by omega)
    have hn2 := fun wx (h : OkW wx) => nwhole_any h (n := ofN v) (by have := ofN_len hv; omega)
    simp only [(ofN_whole hv).1] at hn2
    generalize ofN v = o at *
    generalize whole n = pz at *
    obtain ⟨x, f⟩ := pz
    simp only [wholeV, numV] at *
    go_enter Tryz.func3, Tryz.ntmps3
    go_wp2_with fail
    refine hw.mono ?_
    rintro e w1 ⟨rfl, k1⟩
    have hS1 := box_step (w := w) hS k1
    clear hS hw k1
    obtain ⟨x0, x1, x2, b1⟩ := id hS1
    go_wp2_with fail
    refine (hn _ (ho.below b1)).mono ?_
    rintro e w2 ⟨rfl, k2⟩
    have hS2 := box_step (w := w) hS1 k2
    clear hS1 k2 x0 x1 x2 b1
    obtain ⟨x0, x1, x2, b2⟩ := id hS2
    go_wp2_with fail
    refine (hr _).mono ?_
    rintro e w3 ⟨rfl, k3⟩
    have b3 := b2.trans (k3.mono b2.size)
    clear hS2 x0 x1 x2
    go_wp2_with fail
    refine (ho1 _ (ho.below b3)).mono ?_
    rintro e w4 ⟨rfl, k4⟩
    have b4 := b3.trans (k4.mono b3.size)
    go_wp2_with fail
    refine (hn2 _ (ho.below b4)).mono ?_
    rintro e w5 ⟨rfl, k5⟩
    have b5 := b4.trans (k5.mono b4.size)
    go_wp2_with fail
    refine (ho1 _ (ho.below b5)).mono ?_
    rintro e w6 ⟨rfl, k6⟩
    have b6 := b5.trans (k6.mono b5.size)
    go_wp2_with fail
    refine (ho2 _).mono ?_
    rintro e w7 ⟨rfl, k7⟩
    have b7 := b6.trans (k7.mono b6.size)
    go_wp2_with fail
    go_ret
    exact ⟨rfl, b7⟩

theorem wholes_int {w : World} {n : Dec} {v : Int} (ho : OkW w) (h0 : 0 ≤ v) (h1 : v ≤ 18446744073709551615) : Calls Tryz.prog 3 #[numV n, .int .u64 v] w fun e w' => e = .returned (.bool true) ∧ Below w.heap.size w w' := by
  obtain ⟨v, rfl⟩ := Int.eq_ofNat_of_zero_le h0
  exact wholes_law ho (by omega)
end Go.Proofs.YtkhdahfppajdoaaGreatDoor.Num
