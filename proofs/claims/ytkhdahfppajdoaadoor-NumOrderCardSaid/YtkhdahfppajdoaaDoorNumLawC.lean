/- The walk of NumOrder, over the contracts of package num (XNumFn). Nothing is claimed here. -/
import Derived.Test.YtkhdahfppajdoaaDoorNumLawB
namespace Go.Proofs.YtkhdahfppajdoaaDoor.Num
open Go.RowKit Kit

/-- The three boxed numbers. -/
theorem three_step {w wx wy : World} {g h k : Nat} {a0 a1 a2 b0 b1 b2 c0 c1 c2 : Value} (hS : wx.cell? ⟨g, 0, none⟩ = some a0 ∧ wx.cell? ⟨g, 1, none⟩ = some a1 ∧ wx.cell? ⟨g, 2, none⟩ = some a2 ∧ wx.cell? ⟨h, 0, none⟩ = some b0 ∧ wx.cell? ⟨h, 1, none⟩ = some b1 ∧ wx.cell? ⟨h, 2, none⟩ = some b2 ∧ wx.cell? ⟨k, 0, none⟩ = some c0 ∧ wx.cell? ⟨k, 1, none⟩ = some c1 ∧ wx.cell? ⟨k, 2, none⟩ = some c2 ∧ Below w.heap.size w wx) (kx : Below wx.heap.size wx wy) : wy.cell? ⟨g, 0, none⟩ = some a0 ∧ wy.cell? ⟨g, 1, none⟩ = some a1 ∧ wy.cell? ⟨g, 2, none⟩ = some a2 ∧ wy.cell? ⟨h, 0, none⟩ = some b0 ∧ wy.cell? ⟨h, 1, none⟩ = some b1 ∧ wy.cell? ⟨h, 2, none⟩ = some b2 ∧ wy.cell? ⟨k, 0, none⟩ = some c0 ∧ wy.cell? ⟨k, 1, none⟩ = some c1 ∧ wy.cell? ⟨k, 2, none⟩ = some c2 ∧ Below w.heap.size w wy := by
  obtain ⟨h0, h1, h2, h3, h4, h5, h6, h7, h8, h9⟩ := hS
  have hg : g < wx.heap.size := World.block_lt_of_cell? _ _ h0
  have hh : h < wx.heap.size := World.block_lt_of_cell? _ _ h3
  have hk : k < wx.heap.size := World.block_lt_of_cell? _ _ h6
  exact ⟨(kx.cell (p := ⟨g, 0, none⟩) hg).trans h0, (kx.cell (p := ⟨g, 1, none⟩) hg).trans h1, (kx.cell (p := ⟨g, 2, none⟩) hg).trans h2, (kx.cell (p := ⟨h, 0, none⟩) hh).trans h3, (kx.cell (p := ⟨h, 1, none⟩) hh).trans h4, (kx.cell (p := ⟨h, 2, none⟩) hh).trans h5, (kx.cell (p := ⟨k, 0, none⟩) hk).trans h6, (kx.cell (p := ⟨k, 1, none⟩) hk).trans h7, (kx.cell (p := ⟨k, 2, none⟩) hk).trans h8, h9.trans (kx.mono h9.size)⟩

set_option maxRecDepth 100000 in
set_option maxHeartbeats 8000000 in
theorem order_law {w : World} {a b c : Dec} (ho : Ok w) : Calls Tryd.prog 7 #[numV a, numV b, numV c] w fun e w' => e = .returned (.bool true) ∧ Below w.heap.size w w' := by
  have bA := new_of (new_of (World.alloc_heap_new w (.cells #[.bool a.neg, .string (txt a.dig), .int .i64 a.exp] 24)) (.cells #[.bool b.neg, .string (txt b.dig), .int .i64 b.exp] 24)) (.cells #[.bool c.neg, .string (txt c.dig), .int .i64 c.exp] 24)
  have bB := World.alloc_heap_new (w.alloc (.cells #[.bool a.neg, .string (txt a.dig), .int .i64 a.exp] 24)) (.cells #[.bool b.neg, .string (txt b.dig), .int .i64 b.exp] 24)
  rw [World.size_alloc] at bB
  have bB2 := new_of bB (.cells #[.bool c.neg, .string (txt c.dig), .int .i64 c.exp] 24)
  have bC := World.alloc_heap_new ((w.alloc (.cells #[.bool a.neg, .string (txt a.dig), .int .i64 a.exp] 24)).alloc (.cells #[.bool b.neg, .string (txt b.dig), .int .i64 b.exp] 24)) (.cells #[.bool c.neg, .string (txt c.dig), .int .i64 c.exp] 24)
  rw [World.size_alloc, World.size_alloc] at bC
  have hB0 : Below w.heap.size w (((w.alloc (.cells #[.bool a.neg, .string (txt a.dig), .int .i64 a.exp] 24)).alloc (.cells #[.bool b.neg, .string (txt b.dig), .int .i64 b.exp] 24)).alloc (.cells #[.bool c.neg, .string (txt c.dig), .int .i64 c.exp] 24)) := (((Below.refl _ w).alloc (Nat.le_refl _) _).alloc (by simp) _).alloc (by simp; omega) _
  have hS := And.intro (cell_of bA 0) (And.intro (cell_of bA 1) (And.intro (cell_of bA 2) (And.intro (cell_of bB2 0) (And.intro (cell_of bB2 1) (And.intro (cell_of bB2 2) (And.intro (cell_of bC 0) (And.intro (cell_of bC 1) (And.intro (cell_of bC 2) hB0))))))))
  have hw := wakes_any (ho.below hB0)
  have hsa := txt_size a.dig
  have hsb := txt_size b.dig
  have hsc := txt_size c.dig
  clear bA bB bB2 bC hB0
  simp only [numV]
  by_cases hl : 1200 < a.dig.length ∨ 1200 < b.dig.length ∨ 1200 < c.dig.length
  · have hc : (1200 : Int) < (a.dig.length : Int) ∨ (decide ((1200 : Int) < (a.dig.length : Int)) = false ∧ (1200 : Int) < (b.dig.length : Int)) ∨ (decide ((1200 : Int) < (a.dig.length : Int)) = false ∧ decide ((1200 : Int) < (b.dig.length : Int)) = false ∧ (1200 : Int) < (c.dig.length : Int)) := by
      simp
      omega
    rcases hc with c1 | ⟨c1, c2⟩ | ⟨c1, c2, c3⟩
    all_goals
      go_enter Tryd.func7, Tryd.ntmps7
      go_wp2_with fail
      refine hw.mono ?_
      rintro e w1 ⟨rfl, k1⟩
      obtain ⟨x0, x1, x2, y0, y1, y2, z0, z1, z2, b1⟩ := three_step (w := w) hS k1
      go_wp2_with fail
      go_ret
      exact ⟨rfl, b1⟩
  · have d1 : decide ((1200 : Int) < (a.dig.length : Int)) = false := by simp; omega
    have d2 : decide ((1200 : Int) < (b.dig.length : Int)) = false := by simp; omega
    have d3 : decide ((1200 : Int) < (c.dig.length : Int)) = false := by simp; omega
    have hab := fun wx (h : Ok wx) => ncompare_any h (a := a) (b := b) (by omega) (by omega)
    have hbc := fun wx (h : Ok wx) => ncompare_any h (a := b) (b := c) (by omega) (by omega)
    have hac := fun wx (h : Ok wx) => ncompare_any h (a := a) (b := c) (by omega) (by omega)
    have hra := fun wx => right_any (w := wx) (n := a) (by omega)
    have hrb := fun wx => right_any (w := wx) (n := b) (by omega)
    have hrc := fun wx => right_any (w := wx) (n := c) (by omega)
    have htr := fun (h1 : Right a) (h2 : Right b) (h3 : Right c) => compare_trans h1 h2 h3
    generalize compare a b = x at *
    generalize compare b c = y at *
    generalize compare a c = z at *
    simp only [numV] at *
    have HT := Lib.hid htr
    clear htr hl
    go_enter Tryd.func7, Tryd.ntmps7
    go_wp2_with fail
    refine hw.mono ?_
    rintro e w1 ⟨rfl, k1⟩
    have hS1 := three_step (w := w) hS k1
    clear hS hw k1
    obtain ⟨x0, x1, x2, y0, y1, y2, z0, z1, z2, b1⟩ := id hS1
    by_cases rA : Right a
    · simp only [decide_eq_true rA] at hra
      go_wp2_with fail
      refine (hra _).mono ?_
      rintro e w2 ⟨rfl, k2⟩
      have hS2 := three_step (w := w) hS1 k2
      clear hS1 k2 x0 x1 x2 y0 y1 y2 z0 z1 z2 b1 hra
      obtain ⟨x0, x1, x2, y0, y1, y2, z0, z1, z2, b2⟩ := id hS2
      by_cases rB : Right b
      · simp only [decide_eq_true rB] at hrb
        go_wp2_with fail
        refine (hrb _).mono ?_
        rintro e w3 ⟨rfl, k3⟩
        have hS3 := three_step (w := w) hS2 k3
        clear hS2 k3 x0 x1 x2 y0 y1 y2 z0 z1 z2 b2 hrb
        obtain ⟨x0, x1, x2, y0, y1, y2, z0, z1, z2, b3⟩ := id hS3
        by_cases rC : Right c
        · simp only [decide_eq_true rC] at hrc
          go_wp2_with fail
          refine (hrc _).mono ?_
          rintro e w4 ⟨rfl, k4⟩
          have hS4 := three_step (w := w) hS3 k4
          clear hS3 k4 x0 x1 x2 y0 y1 y2 z0 z1 z2 b3 hrc d1 d2 d3 hsa hsb hsc
          obtain ⟨x0, x1, x2, y0, y1, y2, z0, z1, z2, b4⟩ := id hS4
          go_wp2_with fail
          refine (hab _ (ho.below b4)).mono ?_
          rintro e w5 ⟨rfl, k5⟩
          have hS5 := three_step (w := w) hS4 k5
          clear hS4 k5 x0 x1 x2 y0 y1 y2 z0 z1 z2 b4 hab
          obtain ⟨x0, x1, x2, y0, y1, y2, z0, z1, z2, b5⟩ := id hS5
          by_cases q1 : 0 < x
          · have q1' : decide (0 < x) = true := by simp; omega
            go_wp2_with fail
            go_ret
            exact ⟨rfl, b5⟩
          · have q1' : decide (0 < x) = false := by simp; omega
            go_wp2_with fail
            refine (hbc _ (ho.below b5)).mono ?_
            rintro e w6 ⟨rfl, k6⟩
            have hS6 := three_step (w := w) hS5 k6
            clear hS5 k6 x0 x1 x2 y0 y1 y2 z0 z1 z2 b5 hbc
            obtain ⟨x0, x1, x2, y0, y1, y2, z0, z1, z2, b6⟩ := id hS6
            by_cases q2 : 0 < y
            · have q2' : decide (0 < y) = true := by simp; omega
              go_wp2_with fail
              go_ret
              exact ⟨rfl, b6⟩
            · have q2' : decide (0 < y) = false := by simp; omega
              have q3 := HT.out rA rB rC (by omega) (by omega)
              have q3' : decide (z ≤ 0) = true := by simp; omega
              go_wp2_with fail
              refine (hac _ (ho.below b6)).mono ?_
              rintro e w7 ⟨rfl, k7⟩
              have b7 := b6.trans (k7.mono b6.size)
              go_wp2_with fail
              go_ret
              exact ⟨rfl, b7⟩
        · simp only [decide_eq_false rC] at hrc
          go_wp2_with fail
          refine (hrc _).mono ?_
          rintro e w4 ⟨rfl, k4⟩
          have b4 := b3.trans (k4.mono b3.size)
          go_wp2_with fail
          go_ret
          exact ⟨rfl, b4⟩
      · simp only [decide_eq_false rB] at hrb
        go_wp2_with fail
        refine (hrb _).mono ?_
        rintro e w3 ⟨rfl, k3⟩
        have b3 := b2.trans (k3.mono b2.size)
        go_wp2_with fail
        go_ret
        exact ⟨rfl, b3⟩
    · simp only [decide_eq_false rA] at hra
      go_wp2_with fail
      refine (hra _).mono ?_
      rintro e w2 ⟨rfl, k2⟩
      have b2 := b1.trans (k2.mono b1.size)
      go_wp2_with fail
      go_ret
      exact ⟨rfl, b2⟩
end Go.Proofs.YtkhdahfppajdoaaDoor.Num
