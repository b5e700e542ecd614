/- What contracts of layer 2 (the package's, the document's own answer) want of texts alone: bytes of a text, cuts of it, where telling goes on, what Put writes. Nothing is claimed here. -/
import Derived.Test.YtjekannajnkejaaDoorUtfSpec
namespace Go.Proofs.YtjekannajnkejaaDoor.Utf
open Go.RowKit

theorem at_nb (s : ByteArray) (i : Nat) (h : i < s.size) : (s[i]'h).toNat = nb s.data.toList i := by
  have h' : i < s.data.toList.length := by simpa using h
  simp only [nb, List.getD_eq_getElem?_getD, List.getElem?_eq_getElem h', Option.getD_some]
  rfl

theorem extract_rest (s : ByteArray) (k : Nat) : (s.extract k s.size).data.toList = s.data.toList.drop k := by
  have h : s.data.toList.length = s.size := by simp
  rw [ByteArray.data_extract, Array.toList_extract, List.extract_eq_take_drop]
  exact List.take_of_length_le (by rw [List.length_drop, h]; omega)

/-- What stands behind place k is told on from there. -/
theorem scan_at {l : List UInt8} {k : Nat} (hk : k < l.length) :
    ((one (l.drop k)).2 = 0 ∧ scan k (l.drop k) = ([], some k)) ∨
    ((one (l.drop k)).2 ≠ 0 ∧ 1 ≤ (one (l.drop k)).2 ∧ k + (one (l.drop k)).2 ≤ l.length ∧
      scan k (l.drop k) = ((k, (one (l.drop k)).1) :: (scan (k + (one (l.drop k)).2) (l.drop (k + (one (l.drop k)).2))).1, (scan (k + (one (l.drop k)).2) (l.drop (k + (one (l.drop k)).2))).2)) := by
  have hne : l.drop k ≠ [] := fun e => by have := congrArg List.length e; simp only [List.length_drop, List.length_nil] at this; omega
  by_cases h0 : (one (l.drop k)).2 = 0
  · exact .inl ⟨h0, scan_bad hne h0⟩
  · obtain ⟨_, _, h3⟩ := one_bytes h0
    rw [List.length_drop] at h3
    refine .inr ⟨h0, by omega, by omega, ?_⟩
    rw [scan_step hne h0, List.drop_drop]

/-- What Put writes. -/
def putL (c : Int) : List UInt8 := if 0 ≤ c ∧ c ≤ 1114111 ∧ (c < 55296 ∨ 57343 < c) then enc c.toNat else []

end Go.Proofs.YtjekannajnkejaaDoor.Utf
