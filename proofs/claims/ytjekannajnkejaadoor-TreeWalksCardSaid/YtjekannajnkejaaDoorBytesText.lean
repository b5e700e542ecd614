/- 'string(b)': bytes as a text. Nothing is claimed here. -/
import Derived.Test.YtjekannajnkejaaDoorBytes
import Derived.Lib.BufferRead
namespace Go.Proofs.YtjekannajnkejaaDoor.Byt
open Go.RowKit Kit

/-- The text of these bytes. -/
def textOf (l : List Nat) : ByteArray := ⟨(l.map UInt8.ofNat).toArray⟩
set_option maxRecDepth 100000 in
theorem convert_text {w : World} {a : Option Addr} {n c : Nat} {l : List Nat} (h : Bs w (.slice a n c) l) : (convert 70 9 (.slice a n c)).run Tryd.prog w = .ok (.string (textOf l)) w := by
  obtain ⟨hb, a', c', he, _, h⟩ := h
  injection he with e1 e2 e3
  subst e1; subst e2
  have hlen : (l.map UInt8.ofNat).length = l.length := by simp
  cases a with
  | none =>
    have hl : l = [] := by
      rcases h with h | ⟨_, _, ha, _⟩
      · exact h
      · cases ha
    subst hl
    exact Lib.run_convert_nil_bytes w 70 9 5 c Tryd.underlying70 Tryd.underlying5 Tryd.underlying9
  | some ad =>
    have := run_convert_bytes_back (P := Tryd.prog) w 70 9 5 ad c (l.map UInt8.ofNat) Tryd.underlying70 Tryd.underlying5 Tryd.underlying9 (fun j hj => by
      rw [hlen] at hj
      rcases h with h | ⟨g, off, ha, _, hx⟩
      · rw [h] at hj; simp at hj
      · injection ha with ha
        subst ha
        rw [Addr.add_lit, hx j l[j] (List.getElem?_eq_getElem hj)]
        have hlt := hb l[j] (List.getElem_mem hj)
        simp
        omega)
    rw [hlen] at this
    exact this
end Go.Proofs.YtjekannajnkejaaDoor.Byt
