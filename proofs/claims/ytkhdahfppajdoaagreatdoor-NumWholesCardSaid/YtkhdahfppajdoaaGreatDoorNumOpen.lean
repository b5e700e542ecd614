/- How an argument of type api.Number is opened. Nothing is claimed here. -/
import Derived.Test.YtkhdahfppajdoaaGreatDoorNumRight
import Derived.Lib.SmallJoins
namespace Go.Proofs.YtkhdahfppajdoaaGreatDoor.Num
open Go.RowKit Kit Go.ChangeShapes Go.WideShapes Go.Joins

set_option maxRecDepth 100000 in
theorem number_open {H : Type} {enc : TypeId × Value → H} {W : World} {r : Reach} {b0 base : Nat} {sp : Nat → Bool} {held : Bool} {v : Value} {d : DataW H} {p : List MemPlace}
    (hv : Value.okWide Tryz.prog W r b0 23 v) (h : DataW.Trod enc Tryz.prog W base sp held 23 v d p) :
    ∃ n : Dec, v = numV n ∧ d = .agg [.lit (.bool n.neg), .lit (.string n.dig), .lit (.int .i64 n.exp)] ∧ p = [] ∧ (Lit.int .i64 n.exp).wf = true := by
  obtain ⟨v0, v1, v2, y0, y1, y2, fu, rfl, rfl, rfl, h0, h1, h2⟩ := open_agg3 Tryz.underlying23 (by kernel_rfl) (by kernel_rfl) hv h
  obtain ⟨b, e0, rfl⟩ := DataW.trod_bool Tryz.underlying4 h0
  obtain ⟨s, e1, rfl, _⟩ := DataW.trod_string Tryz.underlying9 h1
  obtain ⟨n, e2, rfl, hw⟩ := DataW.trod_int Tryz.underlying3 h2
  simp only [List.cons.injEq, and_true] at e0 e1 e2
  subst e0; subst e1; subst e2
  refine ⟨⟨b, s.data.toList, n⟩, ?_, rfl, rfl, hw⟩
  simp only [numV]
  rw [← txt_data]
end Go.Proofs.YtkhdahfppajdoaaGreatDoor.Num
