/- The contracts of the document's own answer for layer 6 (package tabulariumref06): Whole. Nothing is claimed here. -/
import Derived.Test.YtkhdahfppajdoaaGreatDoorNumAt
namespace Go.Proofs.YtkhdahfppajdoaaGreatDoor.Num
open Go.RowKit Kit

set_option maxHeartbeats 4000000 in
set_option maxRecDepth 100000 in
theorem rwhole_any {w : World} {n : Dec} (hl : n.dig.length < 1000000000) :
    Calls Tryz.prog 6 #[numV n] w fun e w' => e = .returned (wholeV (whole n)) ∧ Below w.heap.size w w' := by
  have hS := box_new w (.bool n.neg) (.string (txt n.dig)) (.int .i64 n.exp)
  have hr := right_any (w := w.alloc (.cells #[.bool n.neg, .string (txt n.dig), .int .i64 n.exp] 23)) (n := n) hl
  have hw : whole n = if Right n ∧ n.neg = false ∧ 0 ≤ n.exp ∧ n.exp + n.dig.length ≤ 20 ∧ W n ≤ 18446744073709551615 then (W n, true) else (0, false) := rfl
  have hs := txt_size n.dig
  by_cases hR : Right n
  · obtain ⟨e0, e1, e2, -⟩ := right_exp hR
    rw [decide_eq_true hR] at hr
    by_cases hc : n.neg = true ∨ (n.neg = false ∧ n.exp < 0) ∨ (n.neg = false ∧ decide (n.exp < 0) = false ∧ 20 < n.exp + n.dig.length)
    · rw [if_neg (by rintro ⟨-, h1, h2, h3, -⟩; rw [h1] at hc; simp at hc; omega)] at hw
      have HW := Lib.hid hw
      clear hw hR
      rcases hc with c | ⟨c, c2⟩ | ⟨c, c2, c3⟩
      all_goals
        rw [c] at hS hr
        simp only [numV, c] at *
        go_enter Tryz.func6, Tryz.ntmps6
        obtain ⟨x0, x1, x2, b0⟩ := id hS
        go_wp2_with fail
        refine hr.mono ?_
        rintro e w1 ⟨rfl, k1⟩
        obtain ⟨x0, x1, x2, b1⟩ := box_step (w := w) hS k1
        go_wp2_with fail
        refine bodyPost_ret (v := wholeV (0, false)) (by simp [results, Tryz.results6, go_sem, wholeV]) rfl ⟨by rw [HW.out], b1⟩
    · have hng : n.neg = false := by
        cases h : n.neg with
        | false => rfl
        | true => exact absurd (.inl h) hc
      have hx0 : 0 ≤ n.exp := by
        by_cases h : 0 ≤ n.exp
        · exact h
        · exact absurd (.inr (.inl ⟨hng, by omega⟩)) hc
      have hx1 : n.exp + n.dig.length ≤ 20 := by
        by_cases h : n.exp + n.dig.length ≤ 20
        · exact h
        · exact absurd (.inr (.inr ⟨hng, by simp; omega, by omega⟩)) hc
      have d1 : decide (n.exp < 0) = false := by simp; omega
      have d2 : decide (20 < n.exp + (n.dig.length : Int)) = false := by simp; omega
      obtain ⟨N, hN⟩ : ∃ N : Nat, n.exp + n.dig.length = N := ⟨(n.exp + n.dig.length).toNat, by omega⟩
      have hW0 : W n / 10 ^ N = 0 := Nat.div_eq_of_lt (W_lt hR (by omega) hx0)
      have hWz : W n / 10 ^ 0 = W n := by simp
      have hat := fun (wx : World) (k : Nat) (hk : k ≤ 20) => at_any (w := wx) hR (p := (k : Int)) (by omega) (by omega)
      have hval := fun k => at_whole hR hx0 k
      simp only [hR, hng, hx0, hx1, true_and] at hw
      have hdiv : ∀ k, W n / 10 ^ k ≤ W n := fun k => Nat.div_le_self _ _
      have hstep : ∀ k, W n / 10 ^ k = W n / 10 ^ (k + 1) * 10 + W n / 10 ^ k % 10 := fun k => by
        have e1 : W n / 10 ^ (k + 1) = W n / 10 ^ k / 10 := by rw [Nat.pow_succ, Nat.div_div_eq_div_mul]
        omega
      generalize W n = B at *
      simp only [numV, hng] at *
      have HW := Lib.hid hw
      clear hw hR hc
      go_enter Tryz.func6, Tryz.ntmps6
      obtain ⟨x0, x1, x2, b0⟩ := id hS
      go_wp2_with fail
      refine hr.mono ?_
      rintro e w1 ⟨rfl, k1⟩
      have hS1 := box_step (w := w) hS k1
      clear hr k1 hS x0 x1 x2 b0
      obtain ⟨x0, x1, x2, b1⟩ := id hS1
      go_wp2_with fail
      go_loopw [4, 5] (fun v i wr => ∃ k : Nat, i = .int .i64 ((k : Int) - 1) ∧ v = .int .u64 ((B / 10 ^ k : Nat) : Int) ∧ k ≤ N ∧ B / 10 ^ k ≤ 18446744073709551615 ∧ wr.cell? ⟨w.heap.size, 0, none⟩ = some (.bool false) ∧ wr.cell? ⟨w.heap.size, 1, none⟩ = some (.string (txt n.dig)) ∧ wr.cell? ⟨w.heap.size, 2, none⟩ = some (.int .i64 n.exp) ∧ Below w.heap.size w wr)
        (fun _ i _ => (intOf i + 1).toNat)
      case atStart => exact ⟨N, by rw [← hN], by rw [hW0]; rfl, Nat.le_refl _, by rw [hW0]; omega, x0, x1, x2, b1⟩
      case round =>
        clear x0 x1 x2 b1 hS1
        obtain ⟨k, rfl, rfl, hk, hle, hSr⟩ := hrel
        obtain ⟨x0, x1, x2, b1⟩ := id hSr
        by_cases h : k = 0
        · subst h
          rw [hWz] at hle ⊢
          have hfin := HW.out
          rw [if_pos hle] at hfin
          have HF := Lib.hid hfin
          clear hfin HW
          go_wp2_with fail
          refine bodyPost_ret (v := wholeV (B, true)) (by simp [results, Tryz.results6, go_sem, wholeV]) rfl ⟨by rw [HF.out], b1⟩
        · obtain ⟨j, rfl⟩ : ∃ j, k = j + 1 := ⟨k - 1, by omega⟩
          have hp : (((j + 1 : Nat) : Int) - 1) = (j : Int) := by omega
          rw [hp]
          have hc := hat wr j (by omega)
          rw [hval j] at hc
          have hst := hstep j
          have hdj := hdiv j
          obtain ⟨d, hd⟩ : ∃ d, B / 10 ^ j % 10 = d := ⟨_, rfl⟩
          obtain ⟨v, hv⟩ : ∃ v, B / 10 ^ (j + 1) = v := ⟨_, rfl⟩
          rw [hd] at hc hst
          rw [hv] at hle hst ⊢
          have hd10 : d < 10 := by omega
          have hj0 : (0 : Int) ≤ (j : Int) := by omega
          have hci : ((48 + d : Nat) : Int) = 48 + (d : Int) := by omega
          rw [hci] at hc
          have w1' : IntKind.u8.wrap (48 + (d : Int) - 48) = (d : Int) := by simp only [IntKind.wrap, IntKind.signed, IntKind.bits]; simp; omega
          have w2' : IntKind.u64.wrap (18446744073709551615 - (d : Int)) = 18446744073709551615 - (d : Int) := by simp only [IntKind.wrap, IntKind.signed, IntKind.bits]; simp; omega
          have HST := Lib.hid hst
          have HV := Lib.hid hv
          have HD := Lib.hid hd
          clear hst hv hd hci hp hat hval hstep hdiv h
          by_cases hbig : 18446744073709551615 < v * 10 + d
          · have cb : (18446744073709551615 - (d : Int)) / 10 < (v : Int) := by omega
            have hfin := HW.out
            rw [if_neg (by have := HST.out; omega)] at hfin
            have HF := Lib.hid hfin
            clear hfin HW hbig hdj
            go_wp2_with fail
            refine hc.mono ?_
            rintro e w2 ⟨rfl, k2⟩
            obtain ⟨y0, y1, y2, b2⟩ := box_step (w := w) hSr k2
            go_wp2_with fail
            refine bodyPost_ret (v := wholeV (0, false)) (by simp [results, Tryz.results6, go_sem, wholeV]) rfl ⟨by rw [HF.out], b2⟩
          · have cb : decide ((18446744073709551615 - (d : Int)) / 10 < (v : Int)) = false := by simp; omega
            have w3' : IntKind.u64.wrap ((v : Int) * 10) = (v : Int) * 10 := by simp only [IntKind.wrap, IntKind.signed, IntKind.bits]; simp; omega
            have w4' : IntKind.u64.wrap ((v : Int) * 10 + (d : Int)) = (v : Int) * 10 + (d : Int) := by simp only [IntKind.wrap, IntKind.signed, IntKind.bits]; simp; omega
            have hb2 : v * 10 + d ≤ 18446744073709551615 := by omega
            clear hbig hdj
            go_wp2_with fail
            refine hc.mono ?_
            rintro e w2 ⟨rfl, k2⟩
            obtain ⟨y0, y1, y2, b2⟩ := box_step (w := w) hSr k2
            go_wp2_with fail
            go_roundw
            case rel => exact ⟨j, by go_num, by rw [HST.out]; go_num, by omega, by rw [HST.out]; exact hb2, y0, y1, y2, b2⟩
            case measure => simp [intOf]
  · rw [decide_eq_false hR] at hr
    rw [if_neg (fun e => hR e.1)] at hw
    have HW := Lib.hid hw
    clear hw hR
    simp only [numV] at *
    go_enter Tryz.func6, Tryz.ntmps6
    obtain ⟨x0, x1, x2, b0⟩ := id hS
    go_wp2_with fail
    refine hr.mono ?_
    rintro e w1 ⟨rfl, k1⟩
    obtain ⟨x0, x1, x2, b1⟩ := box_step (w := w) hS k1
    go_wp2_with fail
    refine bodyPost_ret (v := wholeV (0, false)) (by simp [results, Tryz.results6, go_sem, wholeV]) rfl ⟨by rw [HW.out], b1⟩

end Go.Proofs.YtkhdahfppajdoaaGreatDoor.Num
