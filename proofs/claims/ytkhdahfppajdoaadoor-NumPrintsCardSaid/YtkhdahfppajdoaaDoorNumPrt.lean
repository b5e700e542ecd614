/- The contract of the document's own answer for layer 6 (package tabulariumref06): Print. Nothing is claimed here. -/
import Derived.Test.YtkhdahfppajdoaaDoorNumDig
import Derived.Test.YtkhdahfppajdoaaDoorNumSl
import Derived.Deep.QuietTactic
namespace Go.Proofs.YtkhdahfppajdoaaDoor.Num
open Go.RowKit Kit

set_option maxHeartbeats 4000000 in
set_option maxRecDepth 100000 in
theorem rprint_any {w : World} {n : Dec} (hl : n.dig.length < 1000000000) :
    Calls Tryd.prog 16 #[numV n] w fun e w' => e = .returned (.string (txt (print n))) ∧ Below w.heap.size w w' := by
  have hS := box_new w (.bool n.neg) (.string (txt n.dig)) (.int .i64 n.exp)
  have hr := right_any (w := w.alloc (.cells #[.bool n.neg, .string (txt n.dig), .int .i64 n.exp] 24)) (n := n) hl
  have hs := txt_size n.dig
  have hp : print n = if ¬ Right n then []
    else if n.dig = [] then [48]
    else if 20 < n.exp then negT n.neg ++ (n.dig ++ (101 :: digits n.exp.toNat))
    else if n.exp < -20 then negT n.neg ++ (n.dig ++ (101 :: 45 :: digits (-n.exp).toNat))
    else if 0 ≤ n.exp then negT n.neg ++ (n.dig ++ noughts n.exp.toNat)
    else if -n.exp < n.dig.length then negT n.neg ++ (n.dig.take (n.dig.length - (-n.exp).toNat) ++ (46 :: n.dig.drop (n.dig.length - (-n.exp).toNat)))
    else negT n.neg ++ (48 :: 46 :: (noughts ((-n.exp).toNat - n.dig.length) ++ n.dig)) := rfl
  by_cases hR : Right n
  · obtain ⟨e0, e1, e2, -⟩ := right_exp hR
    rw [decide_eq_true hR] at hr
    rw [if_neg (not_not_intro hR)] at hp
    obtain ⟨ng, l, ex⟩ := n
    simp only [numV] at *
    by_cases h0 : l = []
    · subst h0
      rw [if_pos rfl] at hp
      rw [hp]
      simp only [List.length_nil] at hs
      clear hp hR
      go_enter Tryd.func16, Tryd.ntmps16
      obtain ⟨x0, x1, x2, b0⟩ := id hS
      go_wp2_with fail
      refine hr.mono ?_
      rintro e w1 ⟨rfl, k1⟩
      have hS1 := box_step (w := w) hS k1
      clear hr k1 hS x0 x1 x2 b0
      obtain ⟨x0, x1, x2, b1⟩ := id hS1
      go_wp2_with fail
      go_ret
      exact ⟨rfl, b1⟩
    · rw [if_neg h0] at hp
      have hn0 : ((l.length : Int) == 0) = false := by simp [h0]
      have hln := List.length_pos_iff.2 h0
      clear hR
      -- the sign, and the digits behind it
      have hng := negT_len ng
      go_enter Tryd.func16, Tryd.ntmps16
      obtain ⟨x0, x1, x2, b0⟩ := id hS
      go_wp2_with fail
      refine hr.mono ?_
      rintro e w1 ⟨rfl, k1⟩
      have hS1 := box_step (w := w) hS k1
      clear hr k1 hS x0 x1 x2 b0
      obtain ⟨x0, x1, x2, b1⟩ := id hS1
      go_upto_if 13 with fail
      go_cut [3] from 14 (fun s wc => s = .string (txt (negT ng)) ∧ w1 = wc)
      case first =>
        cases ng
        all_goals
          go_wp2_with fail
          go_meet
          case rel => exact ⟨rfl, rfl⟩
      case rest =>
        obtain ⟨rfl, rfl⟩ := hcut
        have hsgl : (negT ng).length ≤ 1 := hng
        generalize negT ng = sg at *
        clear hng hS1
        by_cases c1 : 20 < ex
        · rw [if_pos c1] at hp
          have hD := fun wx => digits_any ex.toNat (by omega) wx
          simp only [Int.toNat_of_nonneg (show 0 ≤ ex by omega)] at hD
          have hDl := digits_len ex.toNat 12 (by omega) (by omega)
          obtain ⟨D, hDe⟩ : ∃ D, digits ex.toNat = D := ⟨_, rfl⟩
          rw [hDe] at hDl hp
          simp only [hDe] at hD
          obtain ⟨f1, g1⟩ := add_lit (a := sg) (b := l) (c := sg ++ l) rfl rfl (by omega) (by omega)
          obtain ⟨A, hA⟩ : ∃ A, sg ++ l = A := ⟨_, rfl⟩
          have hAl := congrArg List.length hA
          rw [List.length_append] at hAl
          rw [hA] at g1
          obtain ⟨f2, g2⟩ := add_lit (a := A) (b := [101]) (s := ⟨#[101]⟩) (c := A ++ [101]) rfl rfl (by omega) (by simp)
          obtain ⟨B, hB⟩ : ∃ B, A ++ [101] = B := ⟨_, rfl⟩
          have hBl := congrArg List.length hB
          rw [List.length_append] at hBl
          rw [hB] at g2
          obtain ⟨f3, g3⟩ := add_lit (a := B) (b := D) (c := print ⟨ng, l, ex⟩) rfl (by rw [hp, ← hB, ← hA]; simp) (by simp at hBl; omega) (by omega)
          have f2b : ¬ (9223372036854775807 < (txt A).size + 1) := by have := txt_size A; omega
          clear hp hA hB hAl hBl hDe h0
          go_upto_region 10 with fail
          clear hs
          go_region_held3 (fun wx => wx.cell? ⟨w.heap.size, 0, none⟩ = some (.bool ng) ∧ wx.cell? ⟨w.heap.size, 1, none⟩ = some (.string (txt l)) ∧ wx.cell? ⟨w.heap.size, 2, none⟩ = some (.int .i64 ex) ∧ Below w.heap.size w wx)
            (first | exact ⟨x0, x1, x2, below_drewN b1 1⟩ | exact ⟨by assumption, by assumption, by assumption, by assumption⟩ | assumption)
            (first | (go_at_call 19; refine (hD _).mono ?_; rintro e wx ⟨rfl, kx⟩; have nS := box_step (w := w) (by assumption) kx; obtain ⟨n0, n1, n2, n3⟩ := nS))
          all_goals
            go_wp2_with fail
            go_ret
            exact ⟨rfl, n3⟩
        · rw [if_neg c1] at hp
          have c1' : decide (20 < ex) = false := by simp; omega
          by_cases c2 : ex < -20
          · rw [if_pos c2] at hp
            have hD := fun wx => digits_any (-ex).toNat (by omega) wx
            simp only [Int.toNat_of_nonneg (show 0 ≤ -ex by omega)] at hD
            have hDl := digits_len (-ex).toNat 12 (by omega) (by omega)
            obtain ⟨D, hDe⟩ : ∃ D, digits (-ex).toNat = D := ⟨_, rfl⟩
            rw [hDe] at hDl hp
            simp only [hDe] at hD
            have hw1 : IntKind.i64.wrap (0 - ex) = -ex := by simp only [IntKind.wrap, IntKind.signed, IntKind.bits]; simp; omega
            have hw2 : IntKind.i64.wrap (-ex) = -ex := by simp only [IntKind.wrap, IntKind.signed, IntKind.bits]; simp; omega
            obtain ⟨f1, g1⟩ := add_lit (a := sg) (b := l) (c := sg ++ l) rfl rfl (by omega) (by omega)
            obtain ⟨A, hA⟩ : ∃ A, sg ++ l = A := ⟨_, rfl⟩
            have hAl := congrArg List.length hA
            rw [List.length_append] at hAl
            rw [hA] at g1
            obtain ⟨f2, g2⟩ := add_lit (a := A) (b := [101, 45]) (s := ⟨#[101, 45]⟩) (c := A ++ [101, 45]) rfl rfl (by omega) (by simp)
            obtain ⟨B, hB⟩ : ∃ B, A ++ [101, 45] = B := ⟨_, rfl⟩
            have hBl := congrArg List.length hB
            rw [List.length_append] at hBl
            rw [hB] at g2
            obtain ⟨f3, g3⟩ := add_lit (a := B) (b := D) (c := print ⟨ng, l, ex⟩) rfl (by rw [hp, ← hB, ← hA]; simp) (by simp at hBl; omega) (by omega)
            have f2b : ¬ (9223372036854775807 < (txt A).size + 2) := by have := txt_size A; omega
            clear hp hA hB hAl hBl hDe h0
            go_upto_region 12 with fail
            clear hs
            go_region_held3 (fun wx => wx.cell? ⟨w.heap.size, 0, none⟩ = some (.bool ng) ∧ wx.cell? ⟨w.heap.size, 1, none⟩ = some (.string (txt l)) ∧ wx.cell? ⟨w.heap.size, 2, none⟩ = some (.int .i64 ex) ∧ Below w.heap.size w wx)
              (first | exact ⟨x0, x1, x2, below_drewN b1 1⟩ | exact ⟨by assumption, by assumption, by assumption, by assumption⟩ | assumption)
              (first | (go_at_call 19; refine (hD _).mono ?_; rintro e wx ⟨rfl, kx⟩; have nS := box_step (w := w) (by assumption) kx; obtain ⟨n0, n1, n2, n3⟩ := nS))
            all_goals
              go_wp2_with fail
              go_ret
              exact ⟨rfl, n3⟩
          · rw [if_neg c2] at hp
            have c2' : decide (ex < -20) = false := by simp; omega
            by_cases c3 : 0 ≤ ex
            · rw [if_pos c3] at hp
              have hD := fun wx => (noughts_any (w := wx) (k := ex.toNat) (by omega)).mono fun e w' (h : _ ∧ _) => (⟨h.1, by rw [h.2]; exact Below.refl _ _⟩ : e = .returned (.string (txt (noughts ex.toNat))) ∧ Below wx.heap.size wx w')
              simp only [Int.toNat_of_nonneg c3] at hD
              have hDl := noughts_len ex.toNat
              obtain ⟨D, hDe⟩ : ∃ D, noughts ex.toNat = D := ⟨_, rfl⟩
              rw [hDe] at hDl hp
              simp only [hDe] at hD
              obtain ⟨f1, g1⟩ := add_lit (a := sg) (b := l) (c := sg ++ l) rfl rfl (by omega) (by omega)
              obtain ⟨A, hA⟩ : ∃ A, sg ++ l = A := ⟨_, rfl⟩
              have hAl := congrArg List.length hA
              rw [List.length_append] at hAl
              rw [hA] at g1
              obtain ⟨f3, g3⟩ := add_lit (a := A) (b := D) (c := print ⟨ng, l, ex⟩) rfl (by rw [hp, ← hA]; simp) (by omega) (by omega)
              clear hp hA hAl hDe h0 hDl
              go_upto_region 14 with fail
              clear hs
              go_region_held3 (fun wx => wx.cell? ⟨w.heap.size, 0, none⟩ = some (.bool ng) ∧ wx.cell? ⟨w.heap.size, 1, none⟩ = some (.string (txt l)) ∧ wx.cell? ⟨w.heap.size, 2, none⟩ = some (.int .i64 ex) ∧ Below w.heap.size w wx)
                (first | exact ⟨x0, x1, x2, below_drewN b1 1⟩ | exact ⟨by assumption, by assumption, by assumption, by assumption⟩ | assumption)
                (first | (go_at_call 35; refine (hD _).mono ?_; rintro e wx ⟨rfl, kx⟩; have nS := box_step (w := w) (by assumption) kx; obtain ⟨n0, n1, n2, n3⟩ := nS))
              all_goals
                go_wp2_with fail
                go_ret
                exact ⟨rfl, n3⟩
            · rw [if_neg c3] at hp
              have c3' : decide (0 ≤ ex) = false := by simp; omega
              have hw1 : IntKind.i64.wrap (0 - ex) = -ex := by simp only [IntKind.wrap, IntKind.signed, IntKind.bits]; simp; omega
              have hw2 : IntKind.i64.wrap (-ex) = -ex := by simp only [IntKind.wrap, IntKind.signed, IntKind.bits]; simp; omega
              by_cases c4 : -ex < l.length
              · rw [if_pos c4] at hp
                obtain ⟨q, hq⟩ : ∃ q, l.length - (-ex).toNat = q := ⟨_, rfl⟩
                rw [hq] at hp
                have hqz : (l.length : Int) + ex = (q : Int) := by omega
                have hw3 : IntKind.i64.wrap ((l.length : Int) + ex) = (q : Int) := by rw [hqz]; simp only [IntKind.wrap, IntKind.signed, IntKind.bits]; simp; omega
                have s1 := fun wx => slH (l := l) (z := (q : Int)) (k := q) rfl (by omega) wx
                have s2 := fun wx => slL (l := l) (z := (q : Int)) (k := q) rfl (by omega) wx
                have l1 : (l.take q).length ≤ 1000 := by rw [List.length_take]; omega
                have l2 : (l.drop q).length ≤ 1000 := by rw [List.length_drop]; omega
                generalize l.take q = T at *
                generalize l.drop q = E at *
                obtain ⟨f1, g1⟩ := add_lit (a := sg) (b := T) (c := sg ++ T) rfl rfl (by omega) (by omega)
                obtain ⟨A, hA⟩ : ∃ A, sg ++ T = A := ⟨_, rfl⟩
                have hAl := congrArg List.length hA
                rw [List.length_append] at hAl
                rw [hA] at g1
                obtain ⟨f2, g2⟩ := add_lit (a := A) (b := [46]) (s := ⟨#[46]⟩) (c := A ++ [46]) rfl rfl (by omega) (by simp)
                obtain ⟨B, hB⟩ : ∃ B, A ++ [46] = B := ⟨_, rfl⟩
                have hBl := congrArg List.length hB
                rw [List.length_append] at hBl
                rw [hB] at g2
                obtain ⟨f3, g3⟩ := add_lit (a := B) (b := E) (c := print ⟨ng, l, ex⟩) rfl (by rw [hp, ← hB, ← hA]; simp) (by simp at hBl; omega) (by omega)
                have f2b : ¬ (9223372036854775807 < (txt A).size + 1) := by have := txt_size A; omega
                have hw4 : IntKind.i64.wrap (q : Int) = (q : Int) := by simp only [IntKind.wrap, IntKind.signed, IntKind.bits]; simp; omega
                clear hp hA hB hAl hBl h0 hq hw3
                go_upto_region 16 with fail
                clear hs
                go_region_held3 (fun wx => wx.cell? ⟨w.heap.size, 0, none⟩ = some (.bool ng) ∧ wx.cell? ⟨w.heap.size, 1, none⟩ = some (.string (txt l)) ∧ wx.cell? ⟨w.heap.size, 2, none⟩ = some (.int .i64 ex) ∧ Below w.heap.size w wx)
                  (first | exact ⟨x0, x1, x2, below_drewN b1 1⟩ | exact ⟨by assumption, by assumption, by assumption, by assumption⟩ | assumption)
                  (fail)
                all_goals
                  go_wp2_with fail
                  go_ret
                  exact ⟨rfl, below_drewN b1 1⟩
              · rw [if_neg c4] at hp
                have c4' : decide (-ex < (l.length : Int)) = false := by simp; omega
                obtain ⟨q, hq⟩ : ∃ q, (-ex).toNat - l.length = q := ⟨_, rfl⟩
                rw [hq] at hp
                have hqz : -ex - (l.length : Int) = (q : Int) := by omega
                have hw3 : IntKind.i64.wrap (-ex - (l.length : Int)) = (q : Int) := by rw [hqz]; simp only [IntKind.wrap, IntKind.signed, IntKind.bits]; simp; omega
                have hD := fun wx => (noughts_any (w := wx) (k := q) (by omega)).mono fun e w' (h : _ ∧ _) => (⟨h.1, by rw [h.2]; exact Below.refl _ _⟩ : e = .returned (.string (txt (noughts q))) ∧ Below wx.heap.size wx w')
                have hDl := noughts_len q
                obtain ⟨D, hDe⟩ : ∃ D, noughts q = D := ⟨_, rfl⟩
                rw [hDe] at hDl hp
                simp only [hDe] at hD
                obtain ⟨f1, g1⟩ := add_lit (a := sg) (b := [48, 46]) (s := ⟨#[48, 46]⟩) (c := sg ++ [48, 46]) rfl rfl (by omega) (by simp)
                obtain ⟨A, hA⟩ : ∃ A, sg ++ [48, 46] = A := ⟨_, rfl⟩
                have hAl := congrArg List.length hA
                rw [List.length_append] at hAl
                simp only [List.length_cons, List.length_nil] at hAl
                rw [hA] at g1
                obtain ⟨f2, g2⟩ := add_lit (a := A) (b := D) (c := A ++ D) rfl rfl (by omega) (by omega)
                obtain ⟨B, hB⟩ : ∃ B, A ++ D = B := ⟨_, rfl⟩
                have hBl := congrArg List.length hB
                rw [List.length_append] at hBl
                rw [hB] at g2
                obtain ⟨f3, g3⟩ := add_lit (a := B) (b := l) (c := print ⟨ng, l, ex⟩) rfl (by rw [hp, ← hB, ← hA]; simp) (by omega) (by omega)
                have f1b : ¬ (9223372036854775807 < (txt sg).size + 2) := by have := txt_size sg; omega
                have hw4 : IntKind.i64.wrap (q : Int) = (q : Int) := by simp only [IntKind.wrap, IntKind.signed, IntKind.bits]; simp; omega
                clear hp hA hB hAl hBl h0 hq hDe hDl hw3
                go_upto_region 17 with fail
                clear hs
                go_region_held3 (fun wx => wx.cell? ⟨w.heap.size, 0, none⟩ = some (.bool ng) ∧ wx.cell? ⟨w.heap.size, 1, none⟩ = some (.string (txt l)) ∧ wx.cell? ⟨w.heap.size, 2, none⟩ = some (.int .i64 ex) ∧ Below w.heap.size w wx)
                  (first | exact ⟨x0, x1, x2, below_drewN b1 1⟩ | exact ⟨by assumption, by assumption, by assumption, by assumption⟩ | assumption)
                  (first | (go_at_call 35; refine (hD _).mono ?_; rintro e wx ⟨rfl, kx⟩; have nS := box_step (w := w) (by assumption) kx; obtain ⟨n0, n1, n2, n3⟩ := nS))
                all_goals
                  go_wp2_with fail
                  go_ret
                  exact ⟨rfl, n3⟩
  · rw [decide_eq_false hR] at hr
    rw [if_pos hR] at hp
    rw [hp]
    simp only [numV] at *
    clear hp hR
    go_enter Tryd.func16, Tryd.ntmps16
    obtain ⟨x0, x1, x2, b0⟩ := id hS
    go_wp2_with fail
    refine hr.mono ?_
    rintro e w1 ⟨rfl, k1⟩
    obtain ⟨x0, x1, x2, b1⟩ := box_step (w := w) hS k1
    go_wp2_with fail
    go_ret
    exact ⟨rfl, b1⟩
end Go.Proofs.YtkhdahfppajdoaaDoor.Num
