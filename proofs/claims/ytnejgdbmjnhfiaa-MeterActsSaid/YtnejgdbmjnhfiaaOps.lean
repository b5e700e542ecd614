/- The calls that the laws of layer 1 are given, opened: a flag and a number each. Nothing is claimed here. -/
import Derived.Test.YtnejgdbmjnhfiaaBnd
import Derived.Deep.SlicePairs
namespace Go.Proofs.Ytnejgdbmjnhfiaa.Mtr
open Go.ChangeShapes Go.WideShapes Go.ChangeAt Go.RowKit Go.Deep Kit

theorem cells31 : Try.prog.cellsOf 31 = 2 := by kernel_rfl
theorem cells4 : Try.prog.cellsOf 4 = 1 := by kernel_rfl
theorem cells2 : Try.prog.cellsOf 2 = 1 := by kernel_rfl

theorem open_ops {H : Type} {enc : TypeId × Value → H} {W : World} {fuel : Nat} {ad : Option Addr} {len cap : Nat} {x : DataW H × List MemPlace}
    (hf : DataW.trod enc Try.prog W 0 (fun _ => true) true fuel 22 [.slice ad len cap] = some x) : len = 0 ∨ ∃ b off, ad = some ⟨b, off, none⟩ ∧ Ops W b off len := by
  rcases open_slice_pairs Try.underlying22 Try.underlying31 cells31 rfl rfl cells4 cells2 hf with ⟨hc, _⟩ | ⟨a, len', cap', m, k, V0, V1, D0, D1, P0, P1, hc, _, hl, hm, hmm, hx, hall⟩
  · simp only [List.cons.injEq, and_true, Value.slice.injEq] at hc
    exact .inl hc.2.1
  · simp only [List.cons.injEq, and_true, Value.slice.injEq] at hc
    obtain ⟨rfl, rfl, rfl⟩ := hc
    simp only [if_true] at hmm
    subst hmm
    by_cases h0 : len = 0
    · exact .inl h0
    · obtain ⟨b, off, spot⟩ := a
      have hspot : spot = none := by simpa [Addr.add] using World.cell?_spot (hall 0 (by omega)).1
      subst hspot
      refine .inr ⟨b, off, rfl, fun i hi => ?_⟩
      obtain ⟨h1, h2, h3, h4⟩ := hall i (by omega)
      obtain ⟨g, hg, _⟩ := DataW.trod_bool Try.underlying4 h3
      obtain ⟨n, hn, _, wn⟩ := DataW.trod_int Try.underlying2 h4
      simp only [List.cons.injEq, and_true] at hg hn
      rw [hg] at h1
      rw [hn] at h2
      exact ⟨g, n, by rw [← add_plain]; exact h1, by rw [Nat.add_assoc, ← add_plain]; exact h2, (wf64 wn).1, (wf64 wn).2⟩
end Go.Proofs.Ytnejgdbmjnhfiaa.Mtr
