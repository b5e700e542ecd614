/- The contract of the document's own answer for layer 9 (package tabulariumref09): Blanks. Nothing is claimed here. -/
import Derived.Test.YtehpjidajmoggaaDoorJdecMore
import Derived.Test.YtehpjidajmoggaaDoorTexts
import Derived.Lib.Hide
namespace Go.Proofs.YtehpjidajmoggaaDoor.Jdec
open Go.RowKit Kit Txt
open Utf (nb)

/-- Where blanks end. -/
def skipAt (l : List UInt8) (i : Nat) : Nat := l.length - (skip (l.drop i)).length
theorem skip_on {l : List UInt8} {q : Nat} (h : q < l.length) (hb : nb l q = 9 ∨ nb l q = 10 ∨ nb l q = 13 ∨ nb l q = 32) : skip (l.drop q) = skip (l.drop (q + 1)) := by
  rw [nb_get h] at hb
  have : blank l[q] = true := by
    unfold blank
    rw [decide_eq_true_eq]
    rcases hb with hb | hb | hb | hb
    · exact .inl (UInt8.toNat_inj.1 hb)
    · exact .inr (.inl (UInt8.toNat_inj.1 hb))
    · exact .inr (.inr (.inl (UInt8.toNat_inj.1 hb)))
    · exact .inr (.inr (.inr (UInt8.toNat_inj.1 hb)))
  unfold skip
  rw [List.drop_eq_getElem_cons h, List.dropWhile_cons, if_pos this]
theorem skip_stop {l : List UInt8} {q : Nat} (hb : nb l q ≠ 9 ∧ nb l q ≠ 10 ∧ nb l q ≠ 13 ∧ nb l q ≠ 32) : skip (l.drop q) = l.drop q := by
  by_cases h : q < l.length
  · rw [nb_get h] at hb
    have : blank l[q] = false := by
      unfold blank
      rw [decide_eq_false_iff_not]
      rintro (e | e | e | e) <;> (rw [e] at hb; revert hb; decide)
    unfold skip
    rw [List.drop_eq_getElem_cons h, List.dropWhile_cons, if_neg (by rw [this]; decide)]
  · rw [List.drop_eq_nil_of_le (by omega)]
    rfl
theorem skipAt_le (l : List UInt8) (i : Nat) : skipAt l i ≤ l.length := Nat.sub_le _ _
theorem skipAt_drop {l : List UInt8} {i : Nat} : l.drop (skipAt l i) = skip (l.drop i) := by
  have hs : skip (l.drop i) <:+ l := (skip_suf _).trans (List.drop_suffix _ _)
  exact (List.suffix_iff_eq_drop.1 hs).symm

end Go.Proofs.YtehpjidajmoggaaDoor.Jdec
