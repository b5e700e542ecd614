/- The walk of QuoteApart, over the contracts of package quote (XQuoFn). Nothing is claimed here. -/
import Derived.Test.YtlgkidadpklkjaaDoorQuoLawB
namespace Go.Proofs.YtlgkidadpklkjaaDoor.Quo
open Go.RowKit Kit Txt Utf

/-- Whether the comparisons of prints and of texts differ is asked just where both are printed: then they don't. -/
theorem apart_cases (l m : List UInt8) : (bad l ≠ none) ∨ (bad l = none ∧ bad m ≠ none) ∨ (bad l = none ∧ bad m = none ∧ l = m) ∨ (bad l = none ∧ bad m = none ∧ l ≠ m ∧ print l ≠ print m) := by
  by_cases h1 : bad l = none
  · by_cases h2 : bad m = none
    · by_cases h3 : l = m
      · exact .inr (.inr (.inl ⟨h1, h2, h3⟩))
      · exact .inr (.inr (.inr ⟨h1, h2, h3, fun e => h3 (print_inj h1 h2 e)⟩))
    · exact .inr (.inl ⟨h1, h2⟩)
  · exact .inl h1

set_option maxRecDepth 100000 in
set_option maxHeartbeats 4000000 in
theorem apart_law {w : World} {l m : List UInt8} (ho : Ok w) : Calls Tryd.prog 7 #[.string (txt l), .string (txt m)] w fun e w' => e = .returned (.bool true) ∧ Below w.heap.size w w' := by
  have hw := wakes_any ho
  have hs := txt_size l
  have hsm := txt_size m
  by_cases hl : 500 < l.length ∨ 500 < m.length
  · have hc : (500 : Int) < (l.length : Int) ∨ (decide ((500 : Int) < (l.length : Int)) = false ∧ (500 : Int) < (m.length : Int)) := by
      simp
      omega
    rcases hc with c1 | ⟨c1, c2⟩
    all_goals
      go_enter Tryd.func7, Tryd.ntmps7
      go_wp2_with fail
      refine hw.mono ?_
      rintro e w1 ⟨rfl, k1⟩
      go_wp2_with fail
      go_ret
      exact ⟨rfl, k1⟩
  · have d1 : decide ((500 : Int) < (l.length : Int)) = false := by simp; omega
    have d2 : decide ((500 : Int) < (m.length : Int)) = false := by simp; omega
    have hp1 := fun wx (h : Ok wx) => qprint_any h (l := l) (by omega)
    have hp2 := fun wx (h : Ok wx) => qprint_any h (l := m) (by omega)
    have hq1 := fun wx (h : Ok wx) => qparse_any h (l := l) (by omega)
    have hxb := parse_text l
    have hxl := parse_len l
    have hpx := print_len (parse l).1
    have hp3 := fun wx (h : Ok wx) => qprint_any h (l := (parse l).1) (by omega)
    have hq2 := fun wx (h : Ok wx) => qparse_any h (l := print (parse l).1) (by omega)
    simp only [if_pos hxb] at hp3
    simp only [parse_print hxb] at hq2
    have hcs := apart_cases l m
    have hg : ((((parse l).2 : Nat) : Int) != 0) = true ∨ (parse l).2 = 0 := by
      by_cases h : (parse l).2 = 0
      · exact .inr h
      · exact .inl (by simpa using h)
    have hq0 := nil_text
    clear hxb hxl hpx
    generalize print (parse l).1 = px at *
    generalize parse l = pz at *
    obtain ⟨x, g⟩ := pz
    dsimp only at *
    rcases hcs with h1 | ⟨h1, h2⟩ | ⟨h1, h2, rfl⟩ | ⟨h1, h2, h3, h4⟩
    · simp only [if_neg h1] at hp1
      obtain ⟨e2, he2⟩ : ∃ e, (if bad m = none then 0 else 7 : Nat) = e := ⟨_, rfl⟩
      simp only [he2] at hp2
      obtain ⟨t2, ht2⟩ : ∃ t, (if bad m = none then print m else []) = t := ⟨_, rfl⟩
      simp only [ht2] at hp2
      clear h1 he2 ht2 hl
      rcases hg with hg | rfl
      all_goals
        go_enter Tryd.func7, Tryd.ntmps7
        go_wp2_with fail
        refine hw.mono ?_
        rintro e w1 ⟨rfl, k1⟩
        go_wp2_with fail
        refine (hp1 _ (ho.below k1)).mono ?_
        rintro e w2 ⟨rfl, k2⟩
        have b2 := k1.trans (k2.mono k1.size)
        go_wp2_with fail
        refine (hp2 _ (ho.below b2)).mono ?_
        rintro e w3 ⟨rfl, k3⟩
        have b3 := b2.trans (k3.mono b2.size)
        go_wp2_with fail
        refine (hq1 _ (ho.below b3)).mono ?_
        rintro e w4 ⟨rfl, k4⟩
        have b4 := b3.trans (k4.mono b3.size)
        go_wp2_with fail
        refine (hp3 _ (ho.below b4)).mono ?_
        rintro e w5 ⟨rfl, k5⟩
        have b5 := b4.trans (k5.mono b4.size)
        go_wp2_with fail
        refine (hq2 _ (ho.below b5)).mono ?_
        rintro e w6 ⟨rfl, k6⟩
        have b6 := b5.trans (k6.mono b5.size)
        go_wp2_with fail
        go_ret
        exact ⟨rfl, b6⟩
    · simp only [if_pos h1] at hp1
      simp only [if_neg h2] at hp2
      generalize print l = pl at *
      clear h1 h2 hl
      rcases hg with hg | rfl
      all_goals
        go_enter Tryd.func7, Tryd.ntmps7
        go_wp2_with fail
        refine hw.mono ?_
        rintro e w1 ⟨rfl, k1⟩
        go_wp2_with fail
        refine (hp1 _ (ho.below k1)).mono ?_
        rintro e w2 ⟨rfl, k2⟩
        have b2 := k1.trans (k2.mono k1.size)
        go_wp2_with fail
        refine (hp2 _ (ho.below b2)).mono ?_
        rintro e w3 ⟨rfl, k3⟩
        have b3 := b2.trans (k3.mono b2.size)
        go_wp2_with fail
        refine (hq1 _ (ho.below b3)).mono ?_
        rintro e w4 ⟨rfl, k4⟩
        have b4 := b3.trans (k4.mono b3.size)
        go_wp2_with fail
        refine (hp3 _ (ho.below b4)).mono ?_
        rintro e w5 ⟨rfl, k5⟩
        have b5 := b4.trans (k5.mono b4.size)
        go_wp2_with fail
        refine (hq2 _ (ho.below b5)).mono ?_
        rintro e w6 ⟨rfl, k6⟩
        have b6 := b5.trans (k6.mono b5.size)
        go_wp2_with fail
        go_ret
        exact ⟨rfl, b6⟩
    · simp only [if_pos h1] at hp1
      simp only [if_pos h2] at hp2
      generalize print l = pl at *
      clear h1 h2 hl
      rcases hg with hg | rfl
      all_goals
        go_enter Tryd.func7, Tryd.ntmps7
        go_wp2_with fail
        refine hw.mono ?_
        rintro e w1 ⟨rfl, k1⟩
        go_wp2_with fail
        refine (hp1 _ (ho.below k1)).mono ?_
        rintro e w2 ⟨rfl, k2⟩
        have b2 := k1.trans (k2.mono k1.size)
        go_wp2_with fail
        refine (hp2 _ (ho.below b2)).mono ?_
        rintro e w3 ⟨rfl, k3⟩
        have b3 := b2.trans (k3.mono b2.size)
        go_wp2_with fail
        refine (hq1 _ (ho.below b3)).mono ?_
        rintro e w4 ⟨rfl, k4⟩
        have b4 := b3.trans (k4.mono b3.size)
        go_wp2_with fail
        refine (hp3 _ (ho.below b4)).mono ?_
        rintro e w5 ⟨rfl, k5⟩
        have b5 := b4.trans (k5.mono b4.size)
        go_wp2_with fail
        refine (hq2 _ (ho.below b5)).mono ?_
        rintro e w6 ⟨rfl, k6⟩
        have b6 := b5.trans (k6.mono b5.size)
        go_wp2_with fail
        go_ret
        exact ⟨rfl, b6⟩
    · simp only [if_pos h1] at hp1
      simp only [if_pos h2] at hp2
      have n1 := txt_ne h3
      have n2 := txt_ne h4
      generalize print l = pl at *
      generalize print m = pm at *
      clear h1 h2 h3 h4 hl
      rcases hg with hg | rfl
      all_goals
        go_enter Tryd.func7, Tryd.ntmps7
        go_wp2_with fail
        refine hw.mono ?_
        rintro e w1 ⟨rfl, k1⟩
        go_wp2_with fail
        refine (hp1 _ (ho.below k1)).mono ?_
        rintro e w2 ⟨rfl, k2⟩
        have b2 := k1.trans (k2.mono k1.size)
        go_wp2_with fail
        refine (hp2 _ (ho.below b2)).mono ?_
        rintro e w3 ⟨rfl, k3⟩
        have b3 := b2.trans (k3.mono b2.size)
        go_wp2_with fail
        refine (hq1 _ (ho.below b3)).mono ?_
        rintro e w4 ⟨rfl, k4⟩
        have b4 := b3.trans (k4.mono b3.size)
        go_wp2_with fail
        refine (hp3 _ (ho.below b4)).mono ?_
        rintro e w5 ⟨rfl, k5⟩
        have b5 := b4.trans (k5.mono b4.size)
        go_wp2_with fail
        refine (hq2 _ (ho.below b5)).mono ?_
        rintro e w6 ⟨rfl, k6⟩
        have b6 := b5.trans (k6.mono b5.size)
        go_wp2_with fail
        go_ret
        exact ⟨rfl, b6⟩
theorem apart_text {w : World} {s t : ByteArray} (ho : Ok w) : Calls Tryd.prog 7 #[.string s, .string t] w fun e w' => e = .returned (.bool true) ∧ Below w.heap.size w w' := by
  have := apart_law (l := s.data.toList) (m := t.data.toList) ho
  rwa [← txt_data, ← txt_data] at this
end Go.Proofs.YtlgkidadpklkjaaDoor.Quo
