/- The contracts of the document's own answer for layer 7 (package tabulariumref07): hex, digit, short, unit. Nothing is claimed here. -/
import Derived.Test.YtehpjidajmoggaaDoorQuoPrint
import Derived.Test.YtehpjidajmoggaaDoorTexts
import Derived.Lib.Hide
namespace Go.Proofs.YtehpjidajmoggaaDoor.Quo
open Go.RowKit Kit Txt Utf

/-- A hexadecimal digit's value, or -1. -/
def hexI (c : UInt8) : Int := match hexV c with
  | some d => d
  | none => -1
theorem hexI_cases (c : UInt8) : (48 ≤ c.toNat ∧ c.toNat ≤ 57 ∧ hexI c = (c.toNat : Int) - 48) ∨ (97 ≤ c.toNat ∧ c.toNat ≤ 102 ∧ hexI c = (c.toNat : Int) - 97 + 10) ∨ (65 ≤ c.toNat ∧ c.toNat ≤ 70 ∧ hexI c = (c.toNat : Int) - 65 + 10) ∨
    (¬ (48 ≤ c.toNat ∧ c.toNat ≤ 57) ∧ ¬ (97 ≤ c.toNat ∧ c.toNat ≤ 102) ∧ ¬ (65 ≤ c.toNat ∧ c.toNat ≤ 70) ∧ hexI c = -1) := by
  unfold hexI hexV
  by_cases h1 : 48 ≤ c.toNat ∧ c.toNat ≤ 57
  · left
    rw [if_pos h1]
    exact ⟨h1.1, h1.2, by dsimp only; omega⟩
  rw [if_neg h1]
  by_cases h2 : 97 ≤ c.toNat ∧ c.toNat ≤ 102
  · right; left
    rw [if_pos h2]
    exact ⟨h2.1, h2.2, by dsimp only; omega⟩
  rw [if_neg h2]
  by_cases h3 : 65 ≤ c.toNat ∧ c.toNat ≤ 70
  · right; right; left
    rw [if_pos h3]
    exact ⟨h3.1, h3.2, by dsimp only; omega⟩
  rw [if_neg h3]
  exact .inr (.inr (.inr ⟨h1, h2, h3, rfl⟩))
theorem hexI_none {c : UInt8} (h : hexV c = none) : hexI c = -1 := by unfold hexI; rw [h]
theorem hexI_some {c : UInt8} {d : Nat} (h : hexV c = some d) : hexI c = d ∧ d ≤ 15 := by
  have := hexI_cases c
  have hlt := c.toNat_lt
  have e : hexI c = d := by unfold hexI; rw [h]
  exact ⟨e, by omega⟩
/-- The sign behind a backslash, as a text. -/
def shortT (c : UInt8) : List UInt8 := match shortB c with
  | some x => [x]
  | none => []
theorem unitF_nil {k n : Nat} : unitF (k + 1) n [] = (0, 2) := rfl
theorem unitF_none {k n : Nat} {c : UInt8} {r : List UInt8} (h : hexV c = none) : unitF (k + 1) n (c :: r) = (0, 3) := by unfold unitF; rw [h]
theorem unitF_some {k n d : Nat} {c : UInt8} {r : List UInt8} (h : hexV c = some d) : unitF (k + 1) n (c :: r) = unitF k (n * 16 + d) r := by rw [unitF, h]

end Go.Proofs.YtehpjidajmoggaaDoor.Quo
