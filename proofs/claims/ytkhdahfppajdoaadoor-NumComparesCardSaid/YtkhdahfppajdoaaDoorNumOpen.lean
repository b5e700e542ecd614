/- How an argument of type api.Number is opened. Nothing is claimed here. -/
import Derived.Test.YtkhdahfppajdoaaDoorNumRight
import Derived.Lib.SmallJoins
namespace Go.Proofs.YtkhdahfppajdoaaDoor.Num
open Go.RowKit Kit Go.ChangeShapes Go.WideShapes Go.Joins

set_option maxRecDepth 100000 in
theorem number_open {H : Type} {enc : TypeId × Value → H} {W : World} {r : Reach} {b0 base : Nat} {sp : Nat → Bool} {held : Bool} {v : Value} {d : DataW H} {p : List MemPlace}
    (hv : Value.okWide Tryd.prog W r b0 24 v) (h : DataW.Trod enc Tryd.prog W base sp held 24 v d p) :
    ∃ n : Dec, v = numV n ∧ d = .agg [.lit (.bool n.neg), .lit (.string n.dig), .lit (.int .i64 n.exp)] ∧ p = [] ∧ (Lit.int .i64 n.exp).wf = true := by
  obtain ⟨v0, v1, v2, y0, y1, y2, fu, rfl, rfl, rfl, h0, h1, h2⟩ := open_agg3 Tryd.underlying24 (by kernel_rfl) (by kernel_rfl) hv h
  obtain ⟨b, e0, rfl⟩ := DataW.trod_bool Tryd.underlying4 h0
  obtain ⟨s, e1, rfl, _⟩ := DataW.trod_string Tryd.underlying9 h1
  obtain ⟨n, e2, rfl, hw⟩ := DataW.trod_int Tryd.underlying3 h2
  simp only [List.cons.injEq, and_true] at e0 e1 e2
  subst e0; subst e1; subst e2
  refine ⟨⟨b, s.data.toList, n⟩, ?_, rfl, rfl, hw⟩
  simp only [numV]
  rw [← txt_data]
end Go.Proofs.YtkhdahfppajdoaaDoor.Num
