/- The walks of QuoteCuts and QuoteApart, over the contracts of package quote (XQuoFn). Nothing is claimed here. -/
import Derived.Test.YtlgkidadpklkjaaDoorQuoLawA
namespace Go.Proofs.YtlgkidadpklkjaaDoor.Quo
open Go.RowKit Kit Txt Utf

theorem some_text {l : List UInt8} (h : l ≠ []) : (txt l).toList.isEmpty = false := by
  unfold txt
  rw [ByteArray.toList_mk]
  cases l with
  | nil => exact absurd rfl h
  | cons _ _ => rfl
theorem print_len (l : List UInt8) : (print l).length ≤ 6 * l.length + 2 := by
  have := escs_len l
  unfold print
  simp only [List.length_cons, List.length_append, List.length_nil]
  omega
theorem print_some (l : List UInt8) : print l ≠ [] := by
  unfold print
  simp

set_option maxRecDepth 100000 in
set_option maxHeartbeats 2000000 in
theorem cuts_law {w : World} {l m : List UInt8} {k : Nat} (hk : k < 65536) (ho : Ok w) : Calls Tryd.prog 6 #[.string (txt l), .int .u16 k, .string (txt m)] w fun e w' => e = .returned (.bool true) ∧ Below w.heap.size w w' := by
  have hw := wakes_any ho
  have hs := txt_size l
  have hsm := txt_size m
  by_cases hl : 500 < l.length ∨ 100 < m.length
  · have hc : (500 : Int) < (l.length : Int) ∨ (decide ((500 : Int) < (l.length : Int)) = false ∧ (100 : Int) < (m.length : Int)) := by
      simp
      omega
    rcases hc with c1 | ⟨c1, c2⟩
    all_goals
      go_enter Tryd.func6, Tryd.ntmps6
      go_wp2_with fail
      refine hw.mono ?_
      rintro e w1 ⟨rfl, k1⟩
      go_wp2_with fail
      go_ret
      exact ⟨rfl, k1⟩
  · have d1 : decide ((500 : Int) < (l.length : Int)) = false := by simp; omega
    have d2 : decide ((100 : Int) < (m.length : Int)) = false := by simp; omega
    have hv := fun wx => valid_any (w := wx) (l := l) (by omega)
    by_cases hb : bad l = none
    · have hpl := print_len l
      have hne := some_text (print_some l)
      have hp := fun wx (h : Ok wx) => qprint_any h (l := l) (by omega)
      have hq := fun wx (h : Ok wx) => qscan_any h (l := print l ++ m) (by rw [List.length_append]; omega)
      have hp0 := List.length_pos_iff.2 (print_some l)
      obtain ⟨j, hj⟩ : ∃ j, k % (print l).length = j := ⟨_, rfl⟩
      have hjl : j < (print l).length := by rw [← hj]; exact Nat.mod_lt _ hp0
      have hq2 := fun wx (h : Ok wx) => qscan_any h (l := (print l).take j) (by rw [List.length_take]; omega)
      have hcut := scan_cut hb hjl
      simp only [if_pos hb] at hp
      simp only [decide_eq_true hb] at hv
      simp only [scan_print hb] at hq
      have hsl := fun wx => slH (l := print l) (z := (j : Int)) (k := j) rfl (by omega) wx
      have hsp := txt_size (print l)
      have hadd := add_txt (print l) m
      have hfit : ¬ (9223372036854775807 < (print l).length + m.length) := by omega
      have hfit' : ¬ (9223372036854775807 < (txt (print l)).size + (txt m).size) := by omega
      have hji : (k : Int).tmod ((print l).length : Int) = (j : Int) := by rw [Int.tmod_eq_emod_of_nonneg (by omega), ← hj]; omega
      have hpn := print_some l
      have hp0' : (((print l).length : Int) == 0) = false := by simpa using hpn
      have hp1 : ¬ ((print l).length = 0) := by omega
      have wk : IntKind.i64.wrap (k : Int) = (k : Int) := by simp only [IntKind.wrap, IntKind.signed, IntKind.bits]; simp; omega
      have wj : IntKind.i64.wrap (j : Int) = (j : Int) := by simp only [IntKind.wrap, IntKind.signed, IntKind.bits]; simp; omega
      have hlen : (print l ++ m).length = (print l).length + m.length := List.length_append
      generalize print l ++ m = pm at *
      generalize scan ((print l).take j) = sc at *
      generalize (print l).take j = pj at *
      generalize print l = p at *
      obtain ⟨s2, z2, e2⟩ := sc
      dsimp only at *
      clear hb hpl hj hjl hlen hl
      rcases hcut with rfl | rfl
      all_goals
        go_enter Tryd.func6, Tryd.ntmps6
        go_wp2_with fail
        refine hw.mono ?_
        rintro e w1 ⟨rfl, k1⟩
        go_wp2_with fail
        refine (hv _).mono ?_
        rintro e w2 ⟨rfl, k2⟩
        have b2 := k1.trans (k2.mono k1.size)
        go_wp2_with fail
        refine (hp _ (ho.below b2)).mono ?_
        rintro e w3 ⟨rfl, k3⟩
        have b3 := b2.trans (k3.mono b2.size)
        go_wp2_with fail
        refine (hq _ (ho.below b3)).mono ?_
        rintro e w4 ⟨rfl, k4⟩
        have b4 := b3.trans (k4.mono b3.size)
        go_wp2_with fail
        refine (hq2 _ (ho.below b4)).mono ?_
        rintro e w5 ⟨rfl, k5⟩
        have b5 := b4.trans (k5.mono b4.size)
        go_wp2_with fail
        go_ret
        exact ⟨rfl, b5⟩
    · simp only [decide_eq_false hb] at hv
      clear hb
      go_enter Tryd.func6, Tryd.ntmps6
      go_wp2_with fail
      refine hw.mono ?_
      rintro e w1 ⟨rfl, k1⟩
      go_wp2_with fail
      refine (hv _).mono ?_
      rintro e w2 ⟨rfl, k2⟩
      have b2 := k1.trans (k2.mono k1.size)
      go_wp2_with fail
      go_ret
      exact ⟨rfl, b2⟩
theorem cuts_text {w : World} {s t : ByteArray} {k : Int} (ho : Ok w) (h0 : 0 ≤ k) (h1 : k < 65536) : Calls Tryd.prog 6 #[.string s, .int .u16 k, .string t] w fun e w' => e = .returned (.bool true) ∧ Below w.heap.size w w' := by
  obtain ⟨n, rfl⟩ := Int.eq_ofNat_of_zero_le h0
  have := cuts_law (l := s.data.toList) (m := t.data.toList) (k := n) (by omega) ho
  rwa [← txt_data, ← txt_data] at this
end Go.Proofs.YtlgkidadpklkjaaDoor.Quo
