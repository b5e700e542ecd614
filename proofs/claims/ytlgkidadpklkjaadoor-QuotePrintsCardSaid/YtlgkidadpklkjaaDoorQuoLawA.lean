/- The walks of wakes, QuotePrints, QuoteScans and QuoteTexts, over the contracts of package quote (XQuoFn). Nothing is claimed here. -/
import Derived.Test.YtlgkidadpklkjaaDoorQuoFn
import Derived.Test.YtlgkidadpklkjaaDoorUtfRefB
namespace Go.Proofs.YtlgkidadpklkjaaDoor.Quo
open Go.RowKit Kit Txt Utf

theorem scanF_step {s l l' : List UInt8} {at' : Nat} {p : Part} (h : l.head? ≠ some 34) (hp : part l = p) (he : p.e = 0) (hd : l.drop p.size = l') : scanF s at' l = scanF (s ++ p.s) (at' + p.size) l' := by
  subst hp; subst hd
  exact scanF_on h he
theorem scanF_stop {s l : List UInt8} {at' : Nat} {p : Part} (h : l.head? ≠ some 34) (hp : part l = p) (he : p.e ≠ 0) : scanF s at' l = err p.e := by
  subst hp
  exact scanF_err h he
theorem wake1 : parse [34, 97, 92, 117, 48, 48, 101, 57, 92, 117, 100, 56, 51, 100, 92, 117, 100, 101, 48, 48, 34] = ([97, 195, 169, 240, 159, 152, 128], 0) := by
  have h : scan [34, 97, 92, 117, 48, 48, 101, 57, 92, 117, 100, 56, 51, 100, 92, 117, 100, 101, 48, 48, 34] = ⟨[97, 195, 169, 240, 159, 152, 128], 21, 0⟩ := by
    unfold scan
    dsimp only
    rw [if_neg (by decide),
      scanF_step (p := ⟨[97], 1, 0⟩) (l' := [92, 117, 48, 48, 101, 57, 92, 117, 100, 56, 51, 100, 92, 117, 100, 101, 48, 48, 34]) (by decide) (by decide +kernel) rfl rfl,
      scanF_step (p := ⟨[195, 169], 6, 0⟩) (l' := [92, 117, 100, 56, 51, 100, 92, 117, 100, 101, 48, 48, 34]) (by decide) (by decide +kernel) rfl rfl,
      scanF_step (p := ⟨[240, 159, 152, 128], 12, 0⟩) (l' := [34]) (by decide) (by decide +kernel) rfl rfl, scanF_end rfl]
    rfl
  unfold parse
  rw [h]
  decide
theorem wake2 : parse [34, 92, 117, 100, 56, 51, 100, 34] = ([], 3) := by
  have h : scan [34, 92, 117, 100, 56, 51, 100, 34] = err 3 := by
    unfold scan
    dsimp only
    rw [if_neg (by decide), scanF_stop (p := err 3) (by decide) (by decide +kernel) (by decide)]
    rfl
  unfold parse
  rw [h]
  decide
theorem wake3 : parse [34, 97] = ([], 2) := by
  have h : scan [34, 97] = err 2 := by
    unfold scan
    dsimp only
    rw [if_neg (by decide), scanF_step (p := ⟨[97], 1, 0⟩) (l' := []) (by decide) (by decide +kernel) rfl rfl, scanF_stop (p := err 2) (by decide) (by decide +kernel) (by decide)]
    rfl
  unfold parse
  rw [h]
  decide

/-- What is told of bytes is no longer than so. -/
theorem scanF_len : ∀ (k : Nat) (l : List UInt8), l.length = k → ∀ (s : List UInt8) (at' : Nat), (scanF s at' l).s.length ≤ s.length + 4 * l.length := by
  intro k
  induction k using Nat.strongRecOn with
  | ind k ih =>
    intro l hl s at'
    by_cases h1 : l.head? = some 34
    · rw [scanF_end h1]
      dsimp only
      omega
    · by_cases he : (part l).e = 0
      · rw [scanF_on h1 he]
        obtain ⟨c, k1, k2, k3, k4⟩ := part_ok he
        have := ih (l.drop (part l).size).length (by rw [List.length_drop]; omega) _ rfl (s ++ (part l).s) (at' + (part l).size)
        have he4 := (enc_len (c := c)).2
        have e2 := congrArg List.length k2
        rw [List.length_append, List.length_drop] at this
        omega
      · rw [scanF_err h1 he]
        exact Nat.zero_le _
theorem scan_len (l : List UInt8) : (scan l).s.length ≤ 4 * l.length := by
  unfold scan
  split
  · exact Nat.zero_le _
  · split
    · exact Nat.zero_le _
    · rename_i c r _
      have := scanF_len r.length r rfl [] 1
      simp only [List.length_nil, List.length_cons] at *
      omega
theorem nil_text : (txt []).toList = [] := by unfold txt; rw [ByteArray.toList_mk]
theorem bad_nil : bad [] = none := by unfold bad; rw [scan_nil]
/-- What parsing tells is a text. -/
theorem parse_text (l : List UInt8) : bad (parse l).1 = none := by
  unfold parse
  split
  · exact bad_nil
  · split
    · exact bad_nil
    · rename_i h _
      exact (scan_ok (by simpa using h)).1
theorem parse_len (l : List UInt8) : (parse l).1.length ≤ 4 * l.length := by
  unfold parse
  split
  · exact Nat.zero_le _
  · split
    · exact Nat.zero_le _
    · exact scan_len l

theorem valid_any {w : World} {l : List UInt8} (hl : l.length < 100000) : Calls Tryd.prog 10 #[.string (txt l)] w fun e w' => e = .returned (.bool (decide (bad l = none))) ∧ Below w.heap.size w w' := by
  have h := rvalid_any (w := w) (s := txt l) (by rw [txt_size]; omega)
  rw [txt_list, decide_eq_decide.2 (badI_neg l)] at h
  exact h

set_option maxRecDepth 100000 in
set_option maxHeartbeats 1000000 in
theorem wakes_any {w : World} (ho : Ok w) : Calls Tryd.prog 8 #[] w fun e w' => e = .returned (.bool true) ∧ Below w.heap.size w w' := by
  have h1 := qparse_any ho (l := [34, 97, 92, 117, 48, 48, 101, 57, 92, 117, 100, 56, 51, 100, 92, 117, 100, 101, 48, 48, 34]) (by simp)
  have h2 := fun wx (h : Ok wx) => qparse_any h (l := [34, 92, 117, 100, 56, 51, 100, 34]) (by simp)
  have h3 := fun wx (h : Ok wx) => qparse_any h (l := [34, 97]) (by simp)
  rw [wake1] at h1
  simp only [wake2] at h2
  simp only [wake3] at h3
  have t1 : (⟨#[97, 195, 169, 240, 159, 152, 128]⟩ : ByteArray) = txt [97, 195, 169, 240, 159, 152, 128] := rfl
  go_enter Tryd.func8, Tryd.ntmps8
  go_wp2_with fail
  refine h1.mono ?_
  rintro e w1 ⟨rfl, k1⟩
  go_wp2_with fail
  refine (h2 _ (ho.below k1)).mono ?_
  rintro e w2 ⟨rfl, k2⟩
  have b2 := k1.trans (k2.mono k1.size)
  go_wp2_with fail
  refine (h3 _ (ho.below b2)).mono ?_
  rintro e w3 ⟨rfl, k3⟩
  have b3 := b2.trans (k3.mono b2.size)
  go_wp2_with fail
  go_ret
  exact ⟨rfl, b3⟩

set_option maxRecDepth 100000 in
set_option maxHeartbeats 1000000 in
theorem prints_law {w : World} {l : List UInt8} (ho : Ok w) : Calls Tryd.prog 3 #[.string (txt l)] w fun e w' => e = .returned (.bool true) ∧ Below w.heap.size w w' := by
  have hw := wakes_any ho
  have hs := txt_size l
  by_cases hl : 1000 < l.length
  · have hl' : (1000 : Int) < (l.length : Int) := by omega
    go_enter Tryd.func3, Tryd.ntmps3
    go_wp2_with fail
    refine hw.mono ?_
    rintro e w1 ⟨rfl, k1⟩
    go_wp2_with fail
    go_ret
    exact ⟨rfl, k1⟩
  · have hl' : decide ((1000 : Int) < (l.length : Int)) = false := by simp; omega
    have hp := fun wx (h : Ok wx) => qprint_any h (l := l) (by omega)
    have hv := fun wx => valid_any (w := wx) (l := l) (by omega)
    by_cases hb : bad l = none
    · have hpl : (print l).length ≤ 6 * l.length + 2 := by
        have := escs_len l
        unfold print
        simp only [List.length_cons, List.length_append, List.length_nil]
        omega
      have hq := fun wx (h : Ok wx) => qparse_any h (l := print l) (by omega)
      have hr := fun wx => rprint_any (w := wx) (l := l) (by omega)
      simp only [if_pos hb] at hp
      simp only [decide_eq_true hb] at hv
      simp only [parse_print hb] at hq
      generalize print l = p at *
      clear hb hpl
      go_enter Tryd.func3, Tryd.ntmps3
      go_wp2_with fail
      refine hw.mono ?_
      rintro e w1 ⟨rfl, k1⟩
      go_wp2_with fail
      refine (hp _ (ho.below k1)).mono ?_
      rintro e w2 ⟨rfl, k2⟩
      have b2 := k1.trans (k2.mono k1.size)
      go_wp2_with fail
      refine (hv _).mono ?_
      rintro e w3 ⟨rfl, k3⟩
      have b3 := b2.trans (k3.mono b2.size)
      go_wp2_with fail
      refine (hq _ (ho.below b3)).mono ?_
      rintro e w4 ⟨rfl, k4⟩
      have b4 := b3.trans (k4.mono b3.size)
      go_wp2_with fail
      refine (hr _).mono ?_
      rintro e w5 ⟨rfl, k5⟩
      have b5 := b4.trans (k5.mono b4.size)
      go_wp2_with fail
      go_ret
      exact ⟨rfl, b5⟩
    · have hq0 := nil_text
      simp only [if_neg hb] at hp
      simp only [decide_eq_false hb] at hv
      clear hb
      go_enter Tryd.func3, Tryd.ntmps3
      go_wp2_with fail
      refine hw.mono ?_
      rintro e w1 ⟨rfl, k1⟩
      go_wp2_with fail
      refine (hp _ (ho.below k1)).mono ?_
      rintro e w2 ⟨rfl, k2⟩
      have b2 := k1.trans (k2.mono k1.size)
      go_wp2_with fail
      refine (hv _).mono ?_
      rintro e w3 ⟨rfl, k3⟩
      have b3 := b2.trans (k3.mono b2.size)
      go_wp2_with fail
      go_ret
      exact ⟨rfl, b3⟩
theorem prints_text {w : World} {s : ByteArray} (ho : Ok w) : Calls Tryd.prog 3 #[.string s] w fun e w' => e = .returned (.bool true) ∧ Below w.heap.size w w' := by
  have := prints_law (l := s.data.toList) ho
  rwa [← txt_data] at this

set_option maxRecDepth 100000 in
set_option maxHeartbeats 1000000 in
theorem texts_law {w : World} {l : List UInt8} (ho : Ok w) : Calls Tryd.prog 5 #[.string (txt l)] w fun e w' => e = .returned (.bool true) ∧ Below w.heap.size w w' := by
  have hw := wakes_any ho
  have hs := txt_size l
  by_cases hl : 1000 < l.length
  · have hl' : (1000 : Int) < (l.length : Int) := by omega
    go_enter Tryd.func5, Tryd.ntmps5
    go_wp2_with fail
    refine hw.mono ?_
    rintro e w1 ⟨rfl, k1⟩
    go_wp2_with fail
    go_ret
    exact ⟨rfl, k1⟩
  · have hl' : decide ((1000 : Int) < (l.length : Int)) = false := by simp; omega
    have hp := fun wx (h : Ok wx) => qscan_any h (l := l) (by omega)
    by_cases he : (scan l).e = 0
    · have hok := (scan_ok he).1
      have hsl := scan_len l
      have hv := fun wx => valid_any (w := wx) (l := (scan l).s) (by omega)
      simp only [decide_eq_true hok] at hv
      simp only [he] at hp
      generalize scan l = p at *
      obtain ⟨s, z, e⟩ := p
      clear hok hsl he
      dsimp only at *
      go_enter Tryd.func5, Tryd.ntmps5
      go_wp2_with fail
      refine hw.mono ?_
      rintro e w1 ⟨rfl, k1⟩
      go_wp2_with fail
      refine (hp _ (ho.below k1)).mono ?_
      rintro e w2 ⟨rfl, k2⟩
      have b2 := k1.trans (k2.mono k1.size)
      go_wp2_with fail
      refine (hv _).mono ?_
      rintro e w3 ⟨rfl, k3⟩
      have b3 := b2.trans (k3.mono b2.size)
      go_wp2_with fail
      go_ret
      exact ⟨rfl, b3⟩
    · have hsc := scan_err_nil he
      obtain ⟨e, hE⟩ : ∃ e, (scan l).e = e := ⟨_, rfl⟩
      rw [hE] at hsc he
      simp only [hsc] at hp
      simp only [err] at hp
      have he' : ((e : Int) != 0) = true := by simpa using he
      clear hsc hE
      have hq0 := nil_text
      go_enter Tryd.func5, Tryd.ntmps5
      go_wp2_with fail
      refine hw.mono ?_
      rintro e w1 ⟨rfl, k1⟩
      go_wp2_with fail
      refine (hp _ (ho.below k1)).mono ?_
      rintro e w2 ⟨rfl, k2⟩
      have b2 := k1.trans (k2.mono k1.size)
      go_wp2_with fail
      go_ret
      exact ⟨rfl, b2⟩
theorem texts_text {w : World} {s : ByteArray} (ho : Ok w) : Calls Tryd.prog 5 #[.string s] w fun e w' => e = .returned (.bool true) ∧ Below w.heap.size w w' := by
  have := texts_law (l := s.data.toList) ho
  rwa [← txt_data] at this

set_option maxRecDepth 100000 in
set_option maxHeartbeats 1000000 in
theorem scans_law {w : World} {l : List UInt8} (ho : Ok w) : Calls Tryd.prog 4 #[.string (txt l)] w fun e w' => e = .returned (.bool true) ∧ Below w.heap.size w w' := by
  have hw := wakes_any ho
  have hs := txt_size l
  have hq0 := nil_text
  by_cases hl : 1000 < l.length
  · have hl' : (1000 : Int) < (l.length : Int) := by omega
    go_enter Tryd.func4, Tryd.ntmps4
    go_wp2_with fail
    refine hw.mono ?_
    rintro e w1 ⟨rfl, k1⟩
    go_wp2_with fail
    go_ret
    exact ⟨rfl, k1⟩
  · have hl' : decide ((1000 : Int) < (l.length : Int)) = false := by simp; omega
    have hp := fun wx (h : Ok wx) => qscan_any h (l := l) (by omega)
    have hr := fun wx => rscan_any (w := wx) (l := l) (by omega)
    have hq := fun wx (h : Ok wx) => qparse_any h (l := l) (by omega)
    have hcs : ((scan l).e ≠ 0 ∧ parse l = ([], (scan l).e)) ∨ ((scan l).e = 0 ∧ (scan l).size < l.length ∧ parse l = ([], 14)) ∨ ((scan l).e = 0 ∧ (scan l).size = l.length ∧ parse l = ((scan l).s, 0)) := by
      by_cases h1 : (scan l).e = 0
      · have hz := (scan_ok h1).2.2
        by_cases h2 : (scan l).size < l.length
        · exact .inr (.inl ⟨h1, h2, by unfold parse; rw [if_neg (by omega), if_pos h2]⟩)
        · exact .inr (.inr ⟨h1, by omega, by unfold parse; rw [if_neg (by omega), if_neg h2]⟩)
      · exact .inl ⟨h1, by unfold parse; rw [if_pos h1]⟩
    generalize scan l = p at *
    generalize parse l = pz at *
    obtain ⟨s, z, e⟩ := p
    simp only [partV] at *
    rcases hcs with ⟨h1, rfl⟩ | ⟨rfl, h2, rfl⟩ | ⟨rfl, h2, rfl⟩
    · have he' : ((e : Int) != 0) = true := by simpa using h1
      have he0 : ((e : Int) == 0) = false := by simpa using h1
      clear h1
      go_enter Tryd.func4, Tryd.ntmps4
      go_wp2_with fail
      refine hw.mono ?_
      rintro _ w1 ⟨rfl, k1⟩
      go_wp2_with fail
      refine (hp _ (ho.below k1)).mono ?_
      rintro _ w2 ⟨rfl, k2⟩
      have b2 := k1.trans (k2.mono k1.size)
      go_wp2_with fail
      refine (hr _).mono ?_
      rintro _ w3 ⟨rfl, k3⟩
      have b3 := b2.trans (k3.mono b2.size)
      have b4 := b3.alloc b3.size (.cells #[.string (txt s), .int .i64 z, .int .i64 e] 31)
      go_wp2_with fail
      refine (hq _ (ho.below b4)).mono ?_
      rintro _ w5 ⟨rfl, k5⟩
      have b5 := b4.trans (k5.mono b4.size)
      go_wp2_with fail
      go_ret
      exact ⟨rfl, b5⟩
    · have h2' : (z : Int) < (l.length : Int) := by omega
      go_enter Tryd.func4, Tryd.ntmps4
      go_wp2_with fail
      refine hw.mono ?_
      rintro _ w1 ⟨rfl, k1⟩
      go_wp2_with fail
      refine (hp _ (ho.below k1)).mono ?_
      rintro _ w2 ⟨rfl, k2⟩
      have b2 := k1.trans (k2.mono k1.size)
      go_wp2_with fail
      refine (hr _).mono ?_
      rintro _ w3 ⟨rfl, k3⟩
      have b3 := b2.trans (k3.mono b2.size)
      have b4 := b3.alloc b3.size (.cells #[.string (txt s), .int .i64 z, .int .i64 0] 31)
      go_wp2_with fail
      refine (hq _ (ho.below b4)).mono ?_
      rintro _ w5 ⟨rfl, k5⟩
      have b5 := b4.trans (k5.mono b4.size)
      go_wp2_with fail
      go_ret
      exact ⟨rfl, b5⟩
    · obtain rfl : z = l.length := h2
      have h2' : decide (l.length < l.length) = false := by simp
      go_enter Tryd.func4, Tryd.ntmps4
      go_wp2_with fail
      refine hw.mono ?_
      rintro _ w1 ⟨rfl, k1⟩
      go_wp2_with fail
      refine (hp _ (ho.below k1)).mono ?_
      rintro _ w2 ⟨rfl, k2⟩
      have b2 := k1.trans (k2.mono k1.size)
      go_wp2_with fail
      refine (hr _).mono ?_
      rintro _ w3 ⟨rfl, k3⟩
      have b3 := b2.trans (k3.mono b2.size)
      have b4 := b3.alloc b3.size (.cells #[.string (txt s), .int .i64 l.length, .int .i64 0] 31)
      go_wp2_with fail
      refine (hq _ (ho.below b4)).mono ?_
      rintro _ w5 ⟨rfl, k5⟩
      have b5 := b4.trans (k5.mono b4.size)
      go_wp2_with fail
      go_ret
      exact ⟨rfl, b5⟩
theorem scans_text {w : World} {s : ByteArray} (ho : Ok w) : Calls Tryd.prog 4 #[.string s] w fun e w' => e = .returned (.bool true) ∧ Below w.heap.size w w' := by
  have := scans_law (l := s.data.toList) ho
  rwa [← txt_data] at this
end Go.Proofs.YtlgkidadpklkjaaDoor.Quo
