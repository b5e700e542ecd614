/- The contract of the document's own answer for layer 8 (package tabulariumref08): Right, of values that are no more than statements take. Nothing is claimed here. -/
import Derived.Test.YtjekannajnkejaaDoorTreeRight
import Derived.Test.YtjekannajnkejaaDoorTreeOwn
import Derived.Test.YtjekannajnkejaaDoorTreeRoom
namespace Go.Proofs.YtjekannajnkejaaDoor.Tre
open Go.RowKit Kit Txt
open Num (Dec zero)

/-- A value that is no more than statements take, from some depth on. -/
def Mild (v : Val) : Prop := ∃ d, Fine d v
theorem Mild.kids (v : Val) (h : Mild v) : ∀ x ∈ v.kids, Mild x := by
  obtain ⟨d, h⟩ := h
  obtain ⟨k, b, n, s, ks, vs⟩ := v
  rw [Fine] at h
  exact fun x hx => ⟨d + 1, fines_iff.1 h.2.2.2.2 x hx⟩
theorem Mild.sizes {v : Val} (h : Mild v) : v.str.length ≤ 2000 ∧ v.num.dig.length ≤ 1200 ∧ ∀ x ∈ v.keys, x.length ≤ 2000 := by
  obtain ⟨d, h⟩ := h
  obtain ⟨k, b, n, s, ks, vs⟩ := v
  rw [Fine] at h
  exact ⟨h.2.1, h.2.2.1, h.2.2.2.1⟩
theorem fine_deep : ∀ (v : Val) (d : Nat), Fine d v → d + deep v ≤ 71 := by
  refine ind1 fun v ih d h => ?_
  obtain ⟨k, b, n, s, ks, vs⟩ := v
  rw [Fine] at h
  rw [deep]
  have hd : deeps vs ≤ 70 - d := deeps_le.2 fun x hx => by
    have := ih x hx (d + 1) (fines_iff.1 h.2.2.2.2 x hx)
    omega
  split
  · omega
  · omega
theorem rright_any {v : Val} {w : World} {u : Value} (hm : Mild v) (h : HoldV w u v) : Calls Tryd.prog 11 #[u] w (Tells (Right v) w) :=
  rright_of (F := Mild) Mild.kids (fun v w u hm h => rown_any (by have := hm.sizes; omega) (by have := hm.sizes; omega) (fun x hx => by have := hm.sizes.2.2 x hx; omega) h) hm (by obtain ⟨d, hd⟩ := hm; have := fine_deep v d hd; omega) h
end Go.Proofs.YtjekannajnkejaaDoor.Tre
