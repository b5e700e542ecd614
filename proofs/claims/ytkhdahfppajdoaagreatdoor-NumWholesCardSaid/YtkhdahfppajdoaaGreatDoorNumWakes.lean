/- The walk of wakes, over the contracts of package num (XNumFn). Nothing is claimed here. -/
import Derived.Test.YtkhdahfppajdoaaGreatDoorNumFn
namespace Go.Proofs.YtkhdahfppajdoaaGreatDoor.Num
open Go.RowKit Kit

/-- The cells of a boxed number. -/
theorem three {W : World} {g : Nat} {a b c : Value} {t : TypeId} {fr : Nat × Nat} (h : W.heap[g]? = some (.cells #[a, b, c] t fr)) : W.cell? ⟨g, 0, none⟩ = some a ∧ W.cell? ⟨g, 1, none⟩ = some b ∧ W.cell? ⟨g, 2, none⟩ = some c :=
  ⟨cell_of h 0, cell_of h 1, cell_of h 2⟩

theorem wake1 : parse [45, 49, 46, 53, 48, 101, 49] = (⟨true, [49, 53], 0⟩, 0) := by decide +kernel
theorem wake2 : parse [48, 49] = (zero, 3) := by decide +kernel
theorem wake3 : print ⟨true, [49, 53], 0⟩ = [45, 49, 53] := by decide +kernel

set_option maxRecDepth 100000 in
set_option maxHeartbeats 1000000 in
theorem wakes_any {w : World} (ho : Ok w) : Calls Tryz.prog 4 #[] w fun e w' => e = .returned (.bool true) ∧ Below w.heap.size w w' := by
  have h1 := nparse_any ho (l := [45, 49, 46, 53, 48, 101, 49]) (by simp)
  have h2 := fun wx (h : Ok wx) => nparse_any h (l := [48, 49]) (by simp)
  have h3 := fun wx (h : Ok wx) => nprint_any h (n := ⟨true, [49, 53], 0⟩) (by simp)
  rw [wake1] at h1
  simp only [wake2] at h2
  simp only [wake3] at h3
  simp only [parseV, numV, zero] at h1 h2 h3
  have t1 : (⟨#[49, 53]⟩ : ByteArray) = txt [49, 53] := rfl
  have t2 : (⟨#[45, 49, 53]⟩ : ByteArray) = txt [45, 49, 53] := rfl
  go_enter Tryz.func4, Tryz.ntmps4
  go_wp2_with fail
  refine h1.mono ?_
  rintro e w1 ⟨rfl, k1⟩
  have b1 := k1.alloc k1.size (.cells #[.bool true, .string (txt [49, 53]), .int .i64 0] 23)
  have hA := World.alloc_heap_new w1 (.cells #[.bool true, .string (txt [49, 53]), .int .i64 0] 23)
  go_wp2_with fail
  refine (h2 _ (ho.below b1)).mono ?_
  rintro e w2 ⟨rfl, k2⟩
  have b2 := b1.trans (k2.mono b1.size)
  have hA2 := (k2.block _ (lt_of_heap hA)).trans hA
  obtain ⟨c0, c1, c2⟩ := three hA2
  have hl2 := lt_of_heap hA2
  go_wp2_with fail
  have b3 := b2.alloc b2.size (.cells #[.bool false, .string (txt []), .int .i64 0] 23)
  refine (h3 _ (ho.below b3)).mono ?_
  rintro e w3 ⟨rfl, k3⟩
  have b4 := b3.trans (k3.mono b3.size)
  go_wp2_with fail
  go_ret
  exact ⟨rfl, b4⟩

end Go.Proofs.YtkhdahfppajdoaaGreatDoor.Num
