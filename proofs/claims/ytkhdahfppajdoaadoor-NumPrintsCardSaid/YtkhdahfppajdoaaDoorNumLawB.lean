/- The walks of NumCompares, over the contracts of package num (XNumFn). Nothing is claimed here. -/
import Derived.Test.YtkhdahfppajdoaaDoorNumLawA
import Derived.Test.YtkhdahfppajdoaaDoorNumFnC
namespace Go.Proofs.YtkhdahfppajdoaaDoor.Num
open Go.RowKit Kit

theorem compare_vals (a b : Dec) : compare a b = -1 ∨ compare a b = 0 ∨ compare a b = 1 := by
  unfold compare cmpN
  (repeat' split) <;> simp

theorem txt_ne {a b : List UInt8} (h : a ≠ b) : ((txt a).toList == (txt b).toList) = false := by
  unfold txt
  rw [ByteArray.toList_mk, ByteArray.toList_mk]
  simpa using h

set_option maxRecDepth 100000 in
set_option maxHeartbeats 4000000 in
theorem compares_law {w : World} {a b : Dec} (ho : Ok w) : Calls Tryd.prog 5 #[numV a, numV b] w fun e w' => e = .returned (.bool true) ∧ Below w.heap.size w w' := by
  obtain ⟨na, da, ea⟩ := a
  obtain ⟨nb, db, eb⟩ := b
  have bA := new_of (World.alloc_heap_new w (.cells #[.bool na, .string (txt da), .int .i64 ea] 24)) (.cells #[.bool nb, .string (txt db), .int .i64 eb] 24)
  have bB := World.alloc_heap_new (w.alloc (.cells #[.bool na, .string (txt da), .int .i64 ea] 24)) (.cells #[.bool nb, .string (txt db), .int .i64 eb] 24)
  rw [World.size_alloc] at bB
  have hB0 : Below w.heap.size w ((w.alloc (.cells #[.bool na, .string (txt da), .int .i64 ea] 24)).alloc (.cells #[.bool nb, .string (txt db), .int .i64 eb] 24)) := ((Below.refl _ w).alloc (Nat.le_refl _) _).alloc (by simp) _
  have hS := And.intro (cell_of bA 0) (And.intro (cell_of bA 1) (And.intro (cell_of bA 2) (And.intro (cell_of bB 0) (And.intro (cell_of bB 1) (And.intro (cell_of bB 2) hB0)))))
  have hw := wakes_any (ho.below hB0)
  have hsa := txt_size da
  have hsb := txt_size db
  clear bA bB hB0
  by_cases hl : 1200 < da.length ∨ 1200 < db.length
  · have hc : (1200 : Int) < (da.length : Int) ∨ (decide ((1200 : Int) < (da.length : Int)) = false ∧ (1200 : Int) < (db.length : Int)) := by
      simp
      omega
    simp only [numV]
    rcases hc with c | ⟨c, c'⟩
    all_goals
      go_enter Tryd.func5, Tryd.ntmps5
      go_wp2_with fail
      refine hw.mono ?_
      rintro e w1 ⟨rfl, k1⟩
      obtain ⟨x0, x1, x2, y0, y1, y2, b1⟩ := two_step (w := w) hS k1
      go_wp2_with fail
      go_ret
      exact ⟨rfl, b1⟩
  · have d1 : decide ((1200 : Int) < (da.length : Int)) = false := by simp; omega
    have d2 : decide ((1200 : Int) < (db.length : Int)) = false := by simp; omega
    have hn := fun wx (h : Ok wx) => ncompare_any h (a := ⟨na, da, ea⟩) (b := ⟨nb, db, eb⟩) (by dsimp only; omega) (by dsimp only; omega)
    have hn2 := fun wx (h : Ok wx) => ncompare_any h (a := ⟨nb, db, eb⟩) (b := ⟨na, da, ea⟩) (by dsimp only; omega) (by dsimp only; omega)
    have hr := fun wx => rcompare_any (w := wx) (a := ⟨na, da, ea⟩) (b := ⟨nb, db, eb⟩) (by dsimp only; omega) (by dsimp only; omega)
    have hra := fun wx => right_any (w := wx) (n := ⟨na, da, ea⟩) (by dsimp only; omega)
    have hrb := fun wx => right_any (w := wx) (n := ⟨nb, db, eb⟩) (by dsimp only; omega)
    have hz := fun (h1 : Right ⟨na, da, ea⟩) (h2 : Right ⟨nb, db, eb⟩) => compare_zero h1 h2
    have hcv := compare_vals ⟨na, da, ea⟩ ⟨nb, db, eb⟩
    simp only [compare_swap ⟨na, da, ea⟩ ⟨nb, db, eb⟩] at hn2
    generalize compare ⟨na, da, ea⟩ ⟨nb, db, eb⟩ = c at *
    have hwr : IntKind.i64.wrap (-c) = -c := by simp only [IntKind.wrap, IntKind.signed, IntKind.bits]; simp; omega
    simp only [numV] at *
    have HZ := Lib.hid hz
    clear hz
    go_enter Tryd.func5, Tryd.ntmps5
    go_wp2_with fail
    refine hw.mono ?_
    rintro e w1 ⟨rfl, k1⟩
    have hS1 := two_step (w := w) hS k1
    clear hS hw k1
    obtain ⟨x0, x1, x2, y0, y1, y2, b1⟩ := id hS1
    go_wp2_with fail
    refine (hn _ (ho.below b1)).mono ?_
    rintro e w2 ⟨rfl, k2⟩
    have hS2 := two_step (w := w) hS1 k2
    clear hS1 k2 x0 x1 x2 y0 y1 y2 b1 hn
    obtain ⟨x0, x1, x2, y0, y1, y2, b2⟩ := id hS2
    go_wp2_with fail
    refine (hr _).mono ?_
    rintro e w3 ⟨rfl, k3⟩
    have hS3 := two_step (w := w) hS2 k3
    clear hS2 k3 x0 x1 x2 y0 y1 y2 b2 hr
    obtain ⟨x0, x1, x2, y0, y1, y2, b3⟩ := id hS3
    go_wp2_with fail
    refine (hn2 _ (ho.below b3)).mono ?_
    rintro e w4 ⟨rfl, k4⟩
    have hS4 := two_step (w := w) hS3 k4
    clear hS3 k4 x0 x1 x2 y0 y1 y2 b3 hn2
    obtain ⟨x0, x1, x2, y0, y1, y2, b4⟩ := id hS4
    by_cases h0 : c = 0
    · subst h0
      by_cases hn0 : na = nb ∧ da = db ∧ ea = eb
      · obtain ⟨rfl, rfl, rfl⟩ := hn0
        go_wp2_with fail
        go_ret
        exact ⟨rfl, b4⟩
      · have hR : ¬ (Right ⟨na, da, ea⟩ ∧ Right ⟨nb, db, eb⟩) := fun h => hn0 (by
          have := HZ.out h.1 h.2 rfl
          injection this with e1 e2 e3
          exact ⟨e1, e2, e3⟩)
        have hcase : (na == nb) = false ∨ (na = nb ∧ ((txt da).toList == (txt db).toList) = false) ∨ (na = nb ∧ da = db ∧ (ea == eb) = false) := by
          by_cases h1 : na = nb
          · by_cases h2 : da = db
            · right; right
              refine ⟨h1, h2, ?_⟩
              by_cases h3 : ea = eb
              · exact absurd ⟨h1, h2, h3⟩ hn0
              · simp [h3]
            · right; left
              exact ⟨h1, txt_ne h2⟩
          · left
            cases na <;> cases nb <;> simp_all
        clear HZ hn0
        by_cases h1 : Right ⟨na, da, ea⟩
        · have h2 : ¬ Right ⟨nb, db, eb⟩ := fun h => hR ⟨h1, h⟩
          simp only [decide_eq_true h1] at hra
          simp only [decide_eq_false h2] at hrb
          clear h1 h2 hR
          rcases hcase with q | ⟨rfl, q⟩ | ⟨rfl, rfl, q⟩
          all_goals
            go_wp2_with fail
            refine (hra _).mono ?_
            rintro e w5 ⟨rfl, k5⟩
            have hS5 := two_step (w := w) hS4 k5
            clear hS4 k5 x0 x1 x2 y0 y1 y2 b4 hra
            obtain ⟨x0, x1, x2, y0, y1, y2, b5⟩ := id hS5
            go_wp2_with fail
            refine (hrb _).mono ?_
            rintro e w6 ⟨rfl, k6⟩
            have b6 := b5.trans (k6.mono b5.size)
            go_wp2_with fail
            go_ret
            exact ⟨rfl, b6⟩
        · simp only [decide_eq_false h1] at hra
          clear h1 hR
          rcases hcase with q | ⟨rfl, q⟩ | ⟨rfl, rfl, q⟩
          all_goals
            go_wp2_with fail
            refine (hra _).mono ?_
            rintro e w5 ⟨rfl, k5⟩
            have b5 := b4.trans (k5.mono b4.size)
            go_wp2_with fail
            go_ret
            exact ⟨rfl, b5⟩
    · have h0' : (c != 0) = true := by simp [h0]
      go_wp2_with fail
      go_ret
      exact ⟨rfl, b4⟩
end Go.Proofs.YtkhdahfppajdoaaDoor.Num
