/- The walk of NumPrints, over the contracts of package num (XNumFn). Nothing is claimed here. -/
import Derived.Test.YtkhdahfppajdoaaDoorNumLawB
import Derived.Test.YtkhdahfppajdoaaDoorNumPrt
namespace Go.Proofs.YtkhdahfppajdoaaDoor.Num
open Go.RowKit Kit

theorem print_len (n : Dec) : (print n).length ≤ 1100 := by
  by_cases hR : Right n
  · obtain ⟨h1, h2, h3, -⟩ := right_exp hR
    have hn := negT_len n.neg
    have hd1 := digits_len n.exp.toNat 12 (by omega) (by omega)
    have hd2 := digits_len (-n.exp).toNat 12 (by omega) (by omega)
    unfold print
    rw [if_neg (not_not_intro hR)]
    by_cases c0 : n.dig = []
    · rw [if_pos c0]; simp
    rw [if_neg c0]
    by_cases c1 : 20 < n.exp
    · rw [if_pos c1]; simp only [List.length_append, List.length_cons]; omega
    rw [if_neg c1]
    by_cases c2 : n.exp < -20
    · rw [if_pos c2]; simp only [List.length_append, List.length_cons]; omega
    rw [if_neg c2]
    by_cases c3 : 0 ≤ n.exp
    · rw [if_pos c3]; simp only [List.length_append, noughts_len]; omega
    rw [if_neg c3]
    by_cases c4 : -n.exp < n.dig.length
    · rw [if_pos c4]; simp only [List.length_append, List.length_cons, List.length_take, List.length_drop]; omega
    · rw [if_neg c4]; simp only [List.length_append, List.length_cons, noughts_len]; omega
  · rw [print_wrong hR]; simp

set_option maxRecDepth 100000 in
set_option maxHeartbeats 8000000 in
theorem prints_law {w : World} {n : Dec} (ho : Ok w) : Calls Tryd.prog 4 #[numV n] w fun e w' => e = .returned (.bool true) ∧ Below w.heap.size w w' := by
  have hS := box_new w (.bool n.neg) (.string (txt n.dig)) (.int .i64 n.exp)
  have hw := wakes_any (ho.below hS.2.2.2)
  have hs := txt_size n.dig
  by_cases hl : 1200 < n.dig.length
  · have hl' : (1200 : Int) < (n.dig.length : Int) := by omega
    simp only [numV]
    go_enter Tryd.func4, Tryd.ntmps4
    go_wp2_with fail
    refine hw.mono ?_
    rintro e w1 ⟨rfl, k1⟩
    obtain ⟨x0, x1, x2, b1⟩ := box_step (w := w) hS k1
    go_wp2_with fail
    go_ret
    exact ⟨rfl, b1⟩
  · have hl' : decide ((1200 : Int) < (n.dig.length : Int)) = false := by simp; omega
    have hp := fun wx (h : Ok wx) => nprint_any h (n := n) (by omega)
    have hrp := fun wx => rprint_any (w := wx) (n := n) (by omega)
    have hr := fun wx (h : Ok wx) => nright_any h (n := n) (by omega)
    have hrr := fun wx => right_any (w := wx) (n := n) (by omega)
    have hpl := print_len n
    have hpa := fun wx (h : Ok wx) => nparse_any h (l := print n) (by omega)
    have hsc := fun wx (h : Ok wx) => nscan_any h (l := print n) (by omega)
    have hyes : Right n → parse (print n) = (n, 0) ∧ scan (print n) = (print n).length ∧ print n ≠ [] := parse_print
    have hno : ¬ Right n → print n = [] := print_wrong
    have ht0 : (⟨#[]⟩ : ByteArray) = txt [] := rfl
    generalize hrb : decide (Right n) = rb at *
    have hyes' : rb = true → parse (print n) = (n, 0) ∧ scan (print n) = (print n).length ∧ print n ≠ [] := fun h => hyes (of_decide_eq_true (hrb.trans h))
    have hno' : rb = false → print n = [] := fun h => hno (of_decide_eq_false (hrb.trans h))
    have hps := txt_size (print n)
    have H1 := Lib.hid hyes'
    have H2 := Lib.hid hno'
    clear hyes hno hyes' hno' hrb
    generalize scan (print n) = sc at *
    generalize parse (print n) = pz at *
    generalize print n = pr at *
    obtain ⟨p, pe⟩ := pz
    simp only [parseV, numV] at *
    go_enter Tryd.func4, Tryd.ntmps4
    go_wp2_with fail
    refine hw.mono ?_
    rintro e w1 ⟨rfl, k1⟩
    have hS1 := box_step (w := w) hS k1
    clear hS hw k1
    obtain ⟨x0, x1, x2, b1⟩ := id hS1
    go_wp2_with fail
    refine (hp _ (ho.below b1)).mono ?_
    rintro e w2 ⟨rfl, k2⟩
    have hS2 := box_step (w := w) hS1 k2
    clear hS1 k2 x0 x1 x2 b1 hp
    obtain ⟨x0, x1, x2, b2⟩ := id hS2
    go_upto_region 6 with fail
    go_cut [24] from 25 (fun c wc => c = .bool false ∧ wc.cell? ⟨w.heap.size, 0, none⟩ = some (.bool n.neg) ∧ wc.cell? ⟨w.heap.size, 1, none⟩ = some (.string (txt n.dig)) ∧ wc.cell? ⟨w.heap.size, 2, none⟩ = some (.int .i64 n.exp) ∧ Below w.heap.size w wc)
    case first =>
      clear hS2
      go_region_held3 (fun wx => wx.cell? ⟨w.heap.size, 0, none⟩ = some (.bool n.neg) ∧ wx.cell? ⟨w.heap.size, 1, none⟩ = some (.string (txt n.dig)) ∧ wx.cell? ⟨w.heap.size, 2, none⟩ = some (.int .i64 n.exp) ∧ Below w.heap.size w wx)
        (first | exact ⟨x0, x1, x2, below_drewN b2 1⟩ | exact ⟨by assumption, by assumption, by assumption, by assumption⟩ | assumption)
        (first
          | (go_at_call 14; refine (hr _ (by first | exact ho.below n3 | exact ho.below (below_drewN b2 1))).mono ?_; rintro e wx ⟨rfl, kx⟩; have nS := box_step (w := w) (by assumption) kx; obtain ⟨n0, n1, n2, n3⟩ := nS)
          | (go_at_call 15; refine (hrr _).mono ?_; rintro e wx ⟨rfl, kx⟩; have nS := box_step (w := w) (by assumption) kx; obtain ⟨n0, n1, n2, n3⟩ := nS)
          | (go_at_call 16; refine (hrp _).mono ?_; rintro e wx ⟨rfl, kx⟩; have nS := box_step (w := w) (by assumption) kx; obtain ⟨n0, n1, n2, n3⟩ := nS))
      all_goals
        go_wp2_with fail
        go_meet
        case rel => exact ⟨rfl, n0, n1, n2, n3⟩
    case rest =>
      clear hS2 x0 x1 x2 b2 hr hrr hrp
      obtain ⟨rfl, x0, x1, x2, b2⟩ := hcut
      go_wp2_with fail
      refine (hpa _ (ho.below b2)).mono ?_
      rintro e w4 ⟨rfl, k4⟩
      have hS4 := box_step (w := w) ⟨x0, x1, x2, b2⟩ k4
      clear k4 x0 x1 x2 b2 hpa
      obtain ⟨x0, x1, x2, b4⟩ := id hS4
      cases rb with
      | false =>
        have hpr := H2.out rfl
        subst hpr
        go_wp2_with fail
        go_ret
        exact ⟨rfl, b4.alloc b4.size _⟩
      | true =>
        obtain ⟨q1, q2, q3⟩ := H1.out rfl
        injection q1 with q1 q4
        subst q1; subst q4; subst q2
        have q5 := txt_ne q3
        have b5 := b4.alloc b4.size (.cells #[.bool p.neg, .string (txt p.dig), .int .i64 p.exp] 24)
        have hlt4 : w.heap.size < w4.heap.size := World.block_lt_of_cell? _ _ x0
        go_wp2_with fail
        refine (hsc _ (ho.below b5)).mono ?_
        rintro e w6 ⟨rfl, k6⟩
        have b6 := b5.trans (k6.mono b5.size)
        go_wp2_with fail
        go_ret
        exact ⟨rfl, b6⟩
end Go.Proofs.YtkhdahfppajdoaaDoor.Num
