/- The walks of NumParses, over the contracts of package num (XNumFn). Nothing is claimed here. -/
import Derived.Test.YtkhdahfppajdoaaDoorNumWakes
namespace Go.Proofs.YtkhdahfppajdoaaDoor.Num
open Go.RowKit Kit

set_option maxRecDepth 100000 in
set_option maxHeartbeats 1000000 in
theorem parses_law {w : World} {l : List UInt8} (ho : Ok w) : Calls Tryd.prog 3 #[.string (txt l)] w fun e w' => e = .returned (.bool true) ∧ Below w.heap.size w w' := by
  have hw := wakes_any ho
  have hs := txt_size l
  by_cases hl : 1200 < l.length
  · have hl' : (1200 : Int) < (l.length : Int) := by omega
    go_enter Tryd.func3, Tryd.ntmps3
    go_wp2_with fail
    refine hw.mono ?_
    rintro e w1 ⟨rfl, k1⟩
    go_wp2_with fail
    go_ret
    exact ⟨rfl, k1⟩
  · have hl' : decide ((1200 : Int) < (l.length : Int)) = false := by simp; omega
    have hp := fun wx (h : Ok wx) => nparse_any h (l := l) (by omega)
    have hr := fun wx => rparse_any (w := wx) (l := l) (by omega)
    have hsc := fun wx (h : Ok wx) => nscan_any h (l := l) (by omega)
    have hrs := fun wx => scan_any (w := wx) (l := l) (by omega)
    generalize parse l = pz at *
    obtain ⟨p, e⟩ := pz
    generalize scan l = sc at *
    simp only [parseV, numV] at *
    go_enter Tryd.func3, Tryd.ntmps3
    go_wp2_with fail
    refine hw.mono ?_
    rintro e w1 ⟨rfl, k1⟩
    go_wp2_with fail
    refine (hp _ (ho.below k1)).mono ?_
    rintro e w2 ⟨rfl, k2⟩
    have b2 := k1.trans (k2.mono k1.size)
    have b3 := b2.alloc b2.size (.cells #[.bool p.neg, .string (txt p.dig), .int .i64 p.exp] 24)
    have hA := World.alloc_heap_new w2 (.cells #[.bool p.neg, .string (txt p.dig), .int .i64 p.exp] 24)
    go_wp2_with fail
    refine (hr _).mono ?_
    rintro e w4 ⟨rfl, k4⟩
    have b4 := b3.trans (k4.mono b3.size)
    have hA4 := (k4.block _ (lt_of_heap hA)).trans hA
    obtain ⟨c0, c1, c2⟩ := three hA4
    have hl4 := lt_of_heap hA4
    have b5 := b4.alloc b4.size (.cells #[.bool p.neg, .string (txt p.dig), .int .i64 p.exp] 24)
    go_wp2_with fail
    refine (hsc _ (ho.below b5)).mono ?_
    rintro e w6 ⟨rfl, k6⟩
    have b6 := b5.trans (k6.mono b5.size)
    go_wp2_with fail
    refine (hrs _).mono ?_
    rintro e w7 ⟨rfl, rfl⟩
    go_wp2_with fail
    go_ret
    exact ⟨rfl, b6⟩
theorem parses_text {w : World} {s : ByteArray} (ho : Ok w) : Calls Tryd.prog 3 #[.string s] w fun e w' => e = .returned (.bool true) ∧ Below w.heap.size w w' := by
  have := parses_law (l := s.data.toList) ho
  rwa [← txt_data] at this
end Go.Proofs.YtkhdahfppajdoaaDoor.Num
