/- The contract of the document's own answer for layer 6 (package tabulariumref06): at; a boxed number. Nothing is claimed here. -/
import Derived.Test.YtkhdahfppajdoaaGreatDoorNumRight
import Derived.Test.YtkhdahfppajdoaaGreatDoorNumVal
namespace Go.Proofs.YtkhdahfppajdoaaGreatDoor.Num
open Go.RowKit Kit

/-- 's[i]', the place an int. -/
theorem idz {l : List UInt8} {z : Int} (h0 : 0 ≤ z) (h1 : z < l.length) (wx : World) : (Instr.index 9 (.string (txt l)) (.int .i64 z)).run Tryz.prog wx = .ok (.int .u8 (nb l z.toNat : Int)) wx := by
  have := idx (l := l) (i := z.toNat) (by omega) wx
  rwa [Int.toNat_of_nonneg h0] at this

set_option maxRecDepth 100000 in
set_option maxHeartbeats 1000000 in
theorem at_any {w : World} {n : Dec} (h : Right n) {p : Int} (hp0 : -20000 ≤ p) (hp1 : p ≤ 20000) :
    Calls Tryz.prog 13 #[numV n, .int .i64 p] w fun e w' => e = .returned (.int .u8 (atN n p)) ∧ Below w.heap.size w w' := by
  obtain ⟨e0, e1, hl, -⟩ := right_exp h
  obtain ⟨ng, l, ex⟩ := n
  simp only [numV] at *
  have hs := txt_size l
  have b0 : Below w.heap.size w (w.alloc (.cells #[.bool ng, .string (txt l), .int .i64 ex] 23)) := (Below.refl _ w).alloc (Nat.le_refl _) _
  have hA : atN ⟨ng, l, ex⟩ p = if (l.length : Int) - 1 - (p - ex) < 0 ∨ (l.length : Int) ≤ (l.length : Int) - 1 - (p - ex) then 48 else nb l ((l.length : Int) - 1 - (p - ex)).toNat := rfl
  by_cases c1 : (l.length : Int) - 1 - (p - ex) < 0
  · rw [if_pos (.inl c1)] at hA
    rw [hA]
    clear hA h
    go_enter Tryz.func13, Tryz.ntmps13
    go_wp2_with fail
    go_ret
    exact ⟨rfl, b0⟩
  · have c1' : decide ((l.length : Int) - 1 - (p - ex) < 0) = false := by simp; omega
    by_cases c2 : (l.length : Int) ≤ (l.length : Int) - 1 - (p - ex)
    · rw [if_pos (.inr c2)] at hA
      rw [hA]
      clear hA h
      go_enter Tryz.func13, Tryz.ntmps13
      go_wp2_with fail
      go_ret
      exact ⟨rfl, b0⟩
    · have c2' : decide ((l.length : Int) ≤ (l.length : Int) - 1 - (p - ex)) = false := by simp; omega
      rw [if_neg (by omega)] at hA
      rw [hA]
      have hix := idz (l := l) (z := (l.length : Int) - 1 - (p - ex)) (by omega) (by omega)
      generalize nb l ((l.length : Int) - 1 - (p - ex)).toNat = y at *
      clear hA h
      go_enter Tryz.func13, Tryz.ntmps13
      go_wp2_with fail
      go_ret
      exact ⟨rfl, b0⟩

/-- The two boxed numbers. -/
theorem two_step {w wx wy : World} {g h : Nat} {a0 a1 a2 b0 b1 b2 : Value} (hS : wx.cell? ⟨g, 0, none⟩ = some a0 ∧ wx.cell? ⟨g, 1, none⟩ = some a1 ∧ wx.cell? ⟨g, 2, none⟩ = some a2 ∧ wx.cell? ⟨h, 0, none⟩ = some b0 ∧ wx.cell? ⟨h, 1, none⟩ = some b1 ∧ wx.cell? ⟨h, 2, none⟩ = some b2 ∧ Below w.heap.size w wx)
    (kx : Below wx.heap.size wx wy) : wy.cell? ⟨g, 0, none⟩ = some a0 ∧ wy.cell? ⟨g, 1, none⟩ = some a1 ∧ wy.cell? ⟨g, 2, none⟩ = some a2 ∧ wy.cell? ⟨h, 0, none⟩ = some b0 ∧ wy.cell? ⟨h, 1, none⟩ = some b1 ∧ wy.cell? ⟨h, 2, none⟩ = some b2 ∧ Below w.heap.size w wy := by
  obtain ⟨h1, h2, h3, h4, h5, h6, h7⟩ := hS
  have hg : g < wx.heap.size := World.block_lt_of_cell? _ _ h1
  have hh : h < wx.heap.size := World.block_lt_of_cell? _ _ h4
  exact ⟨(kx.cell (p := ⟨g, 0, none⟩) hg).trans h1, (kx.cell (p := ⟨g, 1, none⟩) hg).trans h2, (kx.cell (p := ⟨g, 2, none⟩) hg).trans h3,
    (kx.cell (p := ⟨h, 0, none⟩) hh).trans h4, (kx.cell (p := ⟨h, 1, none⟩) hh).trans h5, (kx.cell (p := ⟨h, 2, none⟩) hh).trans h6, h7.trans (kx.mono h7.size)⟩

theorem box_step {w wx wy : World} {g : Nat} {a0 a1 a2 : Value} (hS : wx.cell? ⟨g, 0, none⟩ = some a0 ∧ wx.cell? ⟨g, 1, none⟩ = some a1 ∧ wx.cell? ⟨g, 2, none⟩ = some a2 ∧ Below w.heap.size w wx)
    (kx : Below wx.heap.size wx wy) : wy.cell? ⟨g, 0, none⟩ = some a0 ∧ wy.cell? ⟨g, 1, none⟩ = some a1 ∧ wy.cell? ⟨g, 2, none⟩ = some a2 ∧ Below w.heap.size w wy := by
  obtain ⟨h1, h2, h3, h7⟩ := hS
  have hg : g < wx.heap.size := World.block_lt_of_cell? _ _ h1
  exact ⟨(kx.cell (p := ⟨g, 0, none⟩) hg).trans h1, (kx.cell (p := ⟨g, 1, none⟩) hg).trans h2, (kx.cell (p := ⟨g, 2, none⟩) hg).trans h3, h7.trans (kx.mono h7.size)⟩
theorem box_new (w : World) (a0 a1 a2 : Value) : (w.alloc (.cells #[a0, a1, a2] 23)).cell? ⟨w.heap.size, 0, none⟩ = some a0 ∧ (w.alloc (.cells #[a0, a1, a2] 23)).cell? ⟨w.heap.size, 1, none⟩ = some a1 ∧
    (w.alloc (.cells #[a0, a1, a2] 23)).cell? ⟨w.heap.size, 2, none⟩ = some a2 ∧ Below w.heap.size w (w.alloc (.cells #[a0, a1, a2] 23)) := by
  have h := World.alloc_heap_new w (.cells #[a0, a1, a2] 23)
  exact ⟨cell_of h 0, cell_of h 1, cell_of h 2, (Below.refl _ w).alloc (Nat.le_refl _) _⟩

/-- What Whole answers. -/
def wholeV (r : Nat × Bool) : Value := .tuple #[.int .u64 r.1, .bool r.2]

end Go.Proofs.YtkhdahfppajdoaaGreatDoor.Num
