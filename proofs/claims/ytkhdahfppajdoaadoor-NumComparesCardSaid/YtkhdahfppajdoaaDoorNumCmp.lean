/- The contracts of the document's own answer for layer 6 (package tabulariumref06): size, Compare. Nothing is claimed here. -/
import Derived.Test.YtkhdahfppajdoaaDoorNumAt
namespace Go.Proofs.YtkhdahfppajdoaaDoor.Num
open Go.RowKit Kit

set_option maxRecDepth 100000 in
set_option maxHeartbeats 1000000 in
theorem size_any {w : World} {a b : Dec} (ha : Right a) (hb : Right b) :
    Calls Tryd.prog 39 #[numV a, numV b] w fun e w' => e = .returned (.int .i64 (cmpN (V a) (V b))) ∧ Below w.heap.size w w' := by
  have hV : ∀ k, 21002 ≤ k → V a / 10 ^ k = V b / 10 ^ k := fun k hk => by
    rw [Nat.div_eq_of_lt (V_lt ha (by omega)), Nat.div_eq_of_lt (V_lt hb (by omega))]
  have h0 : V a / 10 ^ 0 = V a := by simp
  have h0' : V b / 10 ^ 0 = V b := by simp
  have hata := fun (wx : World) (p : Int) (h1 : -20000 ≤ p) (h2 : p ≤ 20000) => at_any (w := wx) ha h1 h2
  have hatb := fun (wx : World) (p : Int) (h1 : -20000 ≤ p) (h2 : p ≤ 20000) => at_any (w := wx) hb h1 h2
  have hva := fun (p : Int) (q : Nat) => at_val ha (p := p) (q := q)
  have hvb := fun (p : Int) (q : Nat) => at_val hb (p := p) (q := q)
  obtain ⟨av, hav⟩ : ∃ av, V a = av := ⟨_, rfl⟩
  obtain ⟨bv, hbv⟩ : ∃ bv, V b = bv := ⟨_, rfl⟩
  rw [hav] at hV h0 hva ⊢
  rw [hbv] at hV h0' hvb ⊢
  clear hav hbv
  have bA := World.alloc_heap_new w (.cells #[.bool a.neg, .string (txt a.dig), .int .i64 a.exp] 24)
  have bA2 := new_of bA (.cells #[.bool b.neg, .string (txt b.dig), .int .i64 b.exp] 24)
  have bB := World.alloc_heap_new (w.alloc (.cells #[.bool a.neg, .string (txt a.dig), .int .i64 a.exp] 24)) (.cells #[.bool b.neg, .string (txt b.dig), .int .i64 b.exp] 24)
  rw [World.size_alloc] at bB
  have hB0 : Below w.heap.size w ((w.alloc (.cells #[.bool a.neg, .string (txt a.dig), .int .i64 a.exp] 24)).alloc (.cells #[.bool b.neg, .string (txt b.dig), .int .i64 b.exp] 24)) := ((Below.refl _ w).alloc (Nat.le_refl _) _).alloc (by simp) _
  simp only [numV] at *
  go_enter Tryd.func39, Tryd.ntmps39
  go_wp2_with fail
  go_loopw [5] (fun i wr => ∃ k : Nat, i = .int .i64 ((k : Int) - 10001) ∧ k ≤ 21002 ∧ av / 10 ^ k = bv / 10 ^ k ∧ wr.cell? ⟨w.heap.size, 0, none⟩ = some (.bool a.neg) ∧ wr.cell? ⟨w.heap.size, 1, none⟩ = some (.string (txt a.dig)) ∧ wr.cell? ⟨w.heap.size, 2, none⟩ = some (.int .i64 a.exp) ∧ wr.cell? ⟨w.heap.size + 1, 0, none⟩ = some (.bool b.neg) ∧ wr.cell? ⟨w.heap.size + 1, 1, none⟩ = some (.string (txt b.dig)) ∧ wr.cell? ⟨w.heap.size + 1, 2, none⟩ = some (.int .i64 b.exp) ∧ Below w.heap.size w wr) (fun i _ => (intOf i + 10001).toNat)
  case atStart => exact ⟨21002, rfl, Nat.le_refl _, hV 21002 (Nat.le_refl _), cell_of bA2 0, cell_of bA2 1, cell_of bA2 2, cell_of bB 0, cell_of bB 1, cell_of bB 2, hB0⟩
  case round =>
    obtain ⟨k, rfl, hk, heq, x0, x1, x2, y0, y1, y2, hbel⟩ := hrel
    clear bA bA2 bB hB0 hV
    by_cases h : k = 0
    · subst h
      rw [h0, h0'] at heq
      have hc : cmpN av bv = 0 := by rw [heq]; unfold cmpN; rw [if_neg (Nat.lt_irrefl _), if_neg (Nat.lt_irrefl _)]
      have HC := Lib.hid hc
      clear heq hc
      go_wp2_with fail
      go_ret
      rw [HC.out]
      exact ⟨rfl, hbel⟩
    · obtain ⟨j, rfl⟩ : ∃ j, k = j + 1 := ⟨k - 1, by omega⟩
      have hp : (((j + 1 : Nat) : Int) - 10001) = (j : Int) - 10000 := by omega
      rw [hp]
      have c1 : (-10000 : Int) ≤ (j : Int) - 10000 := by omega
      have va := hva ((j : Int) - 10000) j rfl
      have vb := hvb ((j : Int) - 10000) j rfl
      have fa := fun wx => hata wx ((j : Int) - 10000) (by omega) (by omega)
      have fb := fun wx => hatb wx ((j : Int) - 10000) (by omega) (by omega)
      obtain ⟨x, hx⟩ : ∃ x, av / 10 ^ j % 10 = x := ⟨_, rfl⟩
      obtain ⟨y, hy⟩ : ∃ y, bv / 10 ^ j % 10 = y := ⟨_, rfl⟩
      rw [hx] at va
      rw [hy] at vb
      simp only [va] at fa
      simp only [vb] at fb
      have HE := Lib.hid heq
      have HX := Lib.hid hx
      have HY := Lib.hid hy
      clear heq hx hy va vb hva hvb hata hatb h0 h0' ha hb
      have hx9 : x < 10 := by rw [← HX.out]; omega
      have hy9 : y < 10 := by rw [← HY.out]; omega
      go_wp2_with fail
      go_region_held3 (fun wx => wx.cell? ⟨w.heap.size, 0, none⟩ = some (.bool a.neg) ∧ wx.cell? ⟨w.heap.size, 1, none⟩ = some (.string (txt a.dig)) ∧ wx.cell? ⟨w.heap.size, 2, none⟩ = some (.int .i64 a.exp) ∧
          wx.cell? ⟨w.heap.size + 1, 0, none⟩ = some (.bool b.neg) ∧ wx.cell? ⟨w.heap.size + 1, 1, none⟩ = some (.string (txt b.dig)) ∧ wx.cell? ⟨w.heap.size + 1, 2, none⟩ = some (.int .i64 b.exp) ∧ Below w.heap.size w wx)
        (first | exact ⟨x0, x1, x2, y0, y1, y2, below_drewN hbel 1⟩ | exact ⟨by assumption, by assumption, by assumption, by assumption, by assumption, by assumption, by assumption⟩ | assumption)
        (first
          | (go_at_call_of 60 (Value.string (txt a.dig)); refine (fa _).mono ?_; rintro e wx ⟨rfl, kx⟩; have nS := two_step (w := w) (by assumption) kx; obtain ⟨n0, n1, n2, n3, n4, n5, n6⟩ := nS)
          | (go_at_call_of 60 (Value.string (txt b.dig)); refine (fb _).mono ?_; rintro e wx ⟨rfl, kx⟩; have nS := two_step (w := w) (by assumption) kx; obtain ⟨n0, n1, n2, n3, n4, n5, n6⟩ := nS))
      by_cases c2 : x < y
      · have c2' : (48 : Int) + (x : Int) < 48 + (y : Int) := by omega
        have hc := (cmp_lt HE.out (by rw [HX.out, HY.out]; exact c2)).1
        have HC := Lib.hid hc
        clear hc
        go_wp2_with fail
        go_ret
        rw [HC.out]
        exact ⟨rfl, n6⟩
      · have c2' : decide ((48 : Int) + (x : Int) < 48 + (y : Int)) = false := by simp; omega
        by_cases c3 : y < x
        · have c3' : (48 : Int) + (y : Int) < 48 + (x : Int) := by omega
          have hc := (cmp_lt HE.out.symm (by rw [HX.out, HY.out]; exact c3)).2
          have HC := Lib.hid hc
          clear hc
          go_wp2_with fail
          go_ret
          rw [HC.out]
          exact ⟨rfl, n6⟩
        · have c3' : decide ((48 : Int) + (y : Int) < 48 + (x : Int)) = false := by simp; omega
          have HN := Lib.hid (cmp_eq HE.out (by rw [HX.out, HY.out]; omega))
          go_wp2_with fail
          go_roundw
          case rel => exact ⟨j, by go_num, by omega, HN.out, n0, n1, n2, n3, n4, n5, n6⟩
          case measure => simp [intOf]; omega

set_option maxRecDepth 100000 in
set_option maxHeartbeats 4000000 in
theorem rcompare_any {w : World} {a b : Dec} (hla : a.dig.length < 1000000000) (hlb : b.dig.length < 1000000000) :
    Calls Tryd.prog 18 #[numV a, numV b] w fun e w' => e = .returned (.int .i64 (compare a b)) ∧ Below w.heap.size w w' := by
  have bA := new_of (World.alloc_heap_new w (.cells #[.bool a.neg, .string (txt a.dig), .int .i64 a.exp] 24)) (.cells #[.bool b.neg, .string (txt b.dig), .int .i64 b.exp] 24)
  have bB := World.alloc_heap_new (w.alloc (.cells #[.bool a.neg, .string (txt a.dig), .int .i64 a.exp] 24)) (.cells #[.bool b.neg, .string (txt b.dig), .int .i64 b.exp] 24)
  rw [World.size_alloc] at bB
  have hB0 : Below w.heap.size w ((w.alloc (.cells #[.bool a.neg, .string (txt a.dig), .int .i64 a.exp] 24)).alloc (.cells #[.bool b.neg, .string (txt b.dig), .int .i64 b.exp] 24)) := ((Below.refl _ w).alloc (Nat.le_refl _) _).alloc (by simp) _
  have hS := And.intro (cell_of bA 0) (And.intro (cell_of bA 1) (And.intro (cell_of bA 2) (And.intro (cell_of bB 0) (And.intro (cell_of bB 1) (And.intro (cell_of bB 2) hB0)))))
  have hra := fun wx => right_any (w := wx) (n := a) hla
  have hrb := fun wx => right_any (w := wx) (n := b) hlb
  have hsz := fun wx (h1 : Right a) (h2 : Right b) => size_any (w := wx) h1 h2
  have hsz' := fun wx (h1 : Right a) (h2 : Right b) => size_any (w := wx) h2 h1
  have hcm : compare a b = if ¬ Right a ∨ ¬ Right b then 0 else if a.neg = true ∧ b.neg = true then cmpN (V b) (V a) else if a.neg = true then -1 else if b.neg = true then 1 else cmpN (V a) (V b) := rfl
  simp only [numV] at *
  clear bA bB hB0
  by_cases ha : Right a
  · simp only [decide_eq_true ha] at hra
    have hr1 := hra ((w.alloc (.cells #[.bool a.neg, .string (txt a.dig), .int .i64 a.exp] 24)).alloc (.cells #[.bool b.neg, .string (txt b.dig), .int .i64 b.exp] 24))
    by_cases hb : Right b
    · simp only [decide_eq_true hb] at hrb
      rw [if_neg (by simp [ha, hb])] at hcm
      have fa := fun wx => hsz wx ha hb
      have fb := fun wx => hsz' wx ha hb
      cases hna : a.neg <;> cases hnb : b.neg
      · simp only [hna, hnb] at hr1 hS hrb fa fb
        simp [hna, hnb] at hcm
        have HC := Lib.hid hcm
        clear hcm hna hnb hsz hsz' ha hb hra
        go_enter Tryd.func18, Tryd.ntmps18
        go_wp2_with fail
        refine hr1.mono ?_
        rintro e w1 ⟨rfl, k1⟩
        have hS1 := two_step (w := w) hS k1
        obtain ⟨x0, x1, x2, y0, y1, y2, b1⟩ := id hS1
        clear hS hr1
        go_wp2_with fail
        refine (hrb _).mono ?_
        rintro e w2 ⟨rfl, k2⟩
        have hS2 := two_step (w := w) hS1 k2
        clear x0 x1 x2 y0 y1 y2 b1 hS1
        obtain ⟨x0, x1, x2, y0, y1, y2, b2⟩ := hS2
        clear hrb k1
        go_wp2_with fail
        refine (fa _).mono ?_
        rintro e w3 ⟨rfl, k3⟩
        go_wp2_with fail
        go_ret
        rw [HC.out]
        exact ⟨rfl, b2.trans (k3.mono b2.size)⟩
      · simp only [hna, hnb] at hr1 hS hrb fa fb
        simp [hna, hnb] at hcm
        have HC := Lib.hid hcm
        clear hcm hna hnb hsz hsz' ha hb hra
        go_enter Tryd.func18, Tryd.ntmps18
        go_wp2_with fail
        refine hr1.mono ?_
        rintro e w1 ⟨rfl, k1⟩
        have hS1 := two_step (w := w) hS k1
        obtain ⟨x0, x1, x2, y0, y1, y2, b1⟩ := id hS1
        clear hS hr1
        go_wp2_with fail
        refine (hrb _).mono ?_
        rintro e w2 ⟨rfl, k2⟩
        have hS2 := two_step (w := w) hS1 k2
        clear x0 x1 x2 y0 y1 y2 b1 hS1
        obtain ⟨x0, x1, x2, y0, y1, y2, b2⟩ := hS2
        clear hrb k1
        go_wp2_with fail
        go_ret
        rw [HC.out]
        exact ⟨rfl, b2⟩
      · simp only [hna, hnb] at hr1 hS hrb fa fb
        simp [hna, hnb] at hcm
        have HC := Lib.hid hcm
        clear hcm hna hnb hsz hsz' ha hb hra
        go_enter Tryd.func18, Tryd.ntmps18
        go_wp2_with fail
        refine hr1.mono ?_
        rintro e w1 ⟨rfl, k1⟩
        have hS1 := two_step (w := w) hS k1
        obtain ⟨x0, x1, x2, y0, y1, y2, b1⟩ := id hS1
        clear hS hr1
        go_wp2_with fail
        refine (hrb _).mono ?_
        rintro e w2 ⟨rfl, k2⟩
        have hS2 := two_step (w := w) hS1 k2
        clear x0 x1 x2 y0 y1 y2 b1 hS1
        obtain ⟨x0, x1, x2, y0, y1, y2, b2⟩ := hS2
        clear hrb k1
        go_wp2_with fail
        go_ret
        rw [HC.out]
        exact ⟨rfl, b2⟩
      · simp only [hna, hnb] at hr1 hS hrb fa fb
        simp [hna, hnb] at hcm
        have HC := Lib.hid hcm
        clear hcm hna hnb hsz hsz' ha hb hra
        go_enter Tryd.func18, Tryd.ntmps18
        go_wp2_with fail
        refine hr1.mono ?_
        rintro e w1 ⟨rfl, k1⟩
        have hS1 := two_step (w := w) hS k1
        obtain ⟨x0, x1, x2, y0, y1, y2, b1⟩ := id hS1
        clear hS hr1
        go_wp2_with fail
        refine (hrb _).mono ?_
        rintro e w2 ⟨rfl, k2⟩
        have hS2 := two_step (w := w) hS1 k2
        clear x0 x1 x2 y0 y1 y2 b1 hS1
        obtain ⟨x0, x1, x2, y0, y1, y2, b2⟩ := hS2
        clear hrb k1
        go_wp2_with fail
        refine (fb _).mono ?_
        rintro e w3 ⟨rfl, k3⟩
        go_wp2_with fail
        go_ret
        rw [HC.out]
        exact ⟨rfl, b2.trans (k3.mono b2.size)⟩
    · simp only [decide_eq_false hb] at hrb
      rw [if_pos (.inr hb)] at hcm
      have HC := Lib.hid hcm
      clear hcm hsz hsz' ha hb hra
      go_enter Tryd.func18, Tryd.ntmps18
      go_wp2_with fail
      refine hr1.mono ?_
      rintro e w1 ⟨rfl, k1⟩
      have hS1 := two_step (w := w) hS k1
      obtain ⟨x0, x1, x2, y0, y1, y2, b1⟩ := id hS1
      clear hS hr1
      go_wp2_with fail
      refine (hrb _).mono ?_
      rintro e w2 ⟨rfl, k2⟩
      have b2 := b1.trans (k2.mono b1.size)
      go_wp2_with fail
      go_ret
      rw [HC.out]
      exact ⟨rfl, b2⟩
  · simp only [decide_eq_false ha] at hra
    have hr1 := hra ((w.alloc (.cells #[.bool a.neg, .string (txt a.dig), .int .i64 a.exp] 24)).alloc (.cells #[.bool b.neg, .string (txt b.dig), .int .i64 b.exp] 24))
    rw [if_pos (.inl ha)] at hcm
    have HC := Lib.hid hcm
    clear hcm hsz hsz' ha hra hrb
    go_enter Tryd.func18, Tryd.ntmps18
    go_wp2_with fail
    refine hr1.mono ?_
    rintro e w1 ⟨rfl, k1⟩
    have hS1 := two_step (w := w) hS k1
    obtain ⟨x0, x1, x2, y0, y1, y2, b1⟩ := id hS1
    clear hS hr1
    go_wp2_with fail
    go_ret
    rw [HC.out]
    exact ⟨rfl, b1⟩
end Go.Proofs.YtkhdahfppajdoaaDoor.Num
