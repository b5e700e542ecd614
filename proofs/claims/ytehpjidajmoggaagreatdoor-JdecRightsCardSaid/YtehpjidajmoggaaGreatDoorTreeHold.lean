/- A value of api.Value in memory: which one it holds; it stays where memory that was there stays. Nothing is claimed here. -/
import Derived.Test.YtehpjidajmoggaaGreatDoorTreeSpec
import Derived.Test.YtehpjidajmoggaaGreatDoorTexts
namespace Go.Proofs.YtehpjidajmoggaaGreatDoor.Tre
open Go.RowKit Kit Txt
open Num (Dec zero)

/-- The slice holds the texts. -/
def Ks (w : World) (u : Value) (ls : List (List UInt8)) : Prop :=
  ∃ a c, u = .slice a ls.length c ∧ ls.length ≤ c ∧ c ≤ 9223372036854775807 ∧ (ls = [] ∨ ∃ g off, a = some ⟨g, off, none⟩ ∧ g < w.heap.size ∧ ∀ (i : Nat) (l : List UInt8), ls[i]? = some l → w.cell? ⟨g, off + i, none⟩ = some (.string (txt l)))
theorem Ks.below {w w' : World} {u : Value} {ls : List (List UInt8)} (h : Ks w u ls) (b : Below w.heap.size w w') : Ks w' u ls := by
  obtain ⟨a, c, rfl, hc, hm, h⟩ := h
  refine ⟨a, c, rfl, hc, hm, ?_⟩
  rcases h with h | ⟨g, off, ha, hg, hx⟩
  · exact .inl h
  · exact .inr ⟨g, off, ha, Nat.lt_of_lt_of_le hg b.size, fun i l hi => (b.cell (p := ⟨g, off + i, none⟩) hg).trans (hx i l hi)⟩
/-- The eight cells of a value at a place. -/
def At8 (w : World) (g off : Nat) (cs : List Value) : Prop := cs.length = 8 ∧ ∀ j, j < 8 → w.cell? ⟨g, off + j, none⟩ = cs[j]?
theorem At8.below {w w' : World} {g off : Nat} {cs : List Value} (h : At8 w g off cs) (hg : g < w.heap.size) (b : Below w.heap.size w w') : At8 w' g off cs :=
  ⟨h.1, fun j hj => (b.cell (p := ⟨g, off + j, none⟩) hg).trans (h.2 j hj)⟩
/-- A value's cells. -/
def cellsV (k : Int) (i : Bool) (n : Dec) (s : List UInt8) (uk uv : Value) : List Value := [.int .i64 k, .bool i, .bool n.neg, .string (txt n.dig), .int .i64 n.exp, .string (txt s), uk, uv]

mutual
/-- The cells hold the value. -/
def Hold (w : World) (cs : List Value) : Val → Prop
  | ⟨k, i, n, s, ks, vs⟩ => ∃ uk a c, cs = cellsV k i n s uk (.slice a vs.length c) ∧ Ks w uk ks ∧ vs.length ≤ c ∧ c ≤ 9223372036854775807 ∧ (vs = [] ∨ ∃ g off, a = some ⟨g, off, none⟩ ∧ g < w.heap.size ∧ Holds w g off vs)
/-- From a place on, value by value. -/
def Holds (w : World) (g off : Nat) : List Val → Prop
  | [] => True
  | v :: r => (∃ cs, At8 w g off cs ∧ Hold w cs v) ∧ Holds w g (off + 8) r
end
mutual
theorem Hold.below {w w' : World} (b : Below w.heap.size w w') : ∀ (v : Val) {cs : List Value}, Hold w cs v → Hold w' cs v
  | ⟨k, i, n, s, ks, vs⟩, cs, h => by
    rw [Hold] at h ⊢
    obtain ⟨uk, a, c, hcs, hk, hc, hm, h⟩ := h
    refine ⟨uk, a, c, hcs, hk.below b, hc, hm, ?_⟩
    rcases h with h | ⟨g, off, ha, hg, hx⟩
    · exact .inl h
    · exact .inr ⟨g, off, ha, Nat.lt_of_lt_of_le hg b.size, Holds.below b vs hg hx⟩
theorem Holds.below {w w' : World} (b : Below w.heap.size w w') : ∀ (vs : List Val) {g off : Nat}, g < w.heap.size → Holds w g off vs → Holds w' g off vs
  | [], _, _, _, _ => by rw [Holds]; trivial
  | v :: r, g, off, hg, h => by
    rw [Holds] at h ⊢
    obtain ⟨⟨cs, h8, hv⟩, hr⟩ := h
    exact ⟨⟨cs, h8.below hg b, Hold.below b v hv⟩, Holds.below b r hg hr⟩
end
theorem Holds.at {w : World} {g : Nat} : ∀ {vs : List Val} {off : Nat}, Holds w g off vs → ∀ {i : Nat} {v : Val}, vs[i]? = some v → ∃ cs, At8 w g (off + i * 8) cs ∧ Hold w cs v
  | [], _, _, _, _, hi => by simp at hi
  | x :: r, off, h, 0, v, hi => by
    rw [Holds] at h
    simp at hi
    subst hi
    simpa using h.1
  | x :: r, off, h, i + 1, v, hi => by
    rw [Holds] at h
    have := Holds.at h.2 (i := i) (v := v) (by simpa using hi)
    rwa [show off + (i + 1) * 8 = off + 8 + i * 8 by omega]
/-- A value by its cells. -/
def HoldV (w : World) (u : Value) (v : Val) : Prop := ∃ cs : List Value, u = .agg cs.toArray ∧ Hold w cs v
theorem HoldV.below {w w' : World} {u : Value} {v : Val} (h : HoldV w u v) (b : Below w.heap.size w w') : HoldV w' u v := by
  obtain ⟨cs, hu, hc⟩ := h
  exact ⟨cs, hu, Hold.below b v hc⟩
/-- The eight cells, one by one. -/
theorem At8.cells {w : World} {g off : Nat} {k : Int} {i : Bool} {n : Dec} {s : List UInt8} {uk uv : Value} (h : At8 w g off (cellsV k i n s uk uv)) :
    w.cell? ⟨g, off, none⟩ = some (.int .i64 k) ∧ w.cell? ⟨g, off + 1, none⟩ = some (.bool i) ∧ w.cell? ⟨g, off + 2, none⟩ = some (.bool n.neg) ∧ w.cell? ⟨g, off + 3, none⟩ = some (.string (txt n.dig)) ∧
    w.cell? ⟨g, off + 4, none⟩ = some (.int .i64 n.exp) ∧ w.cell? ⟨g, off + 5, none⟩ = some (.string (txt s)) ∧ w.cell? ⟨g, off + 6, none⟩ = some uk ∧ w.cell? ⟨g, off + 7, none⟩ = some uv :=
  ⟨h.2 0 (by omega), h.2 1 (by omega), h.2 2 (by omega), h.2 3 (by omega), h.2 4 (by omega), h.2 5 (by omega), h.2 6 (by omega), h.2 7 (by omega)⟩
theorem eight {W : World} {g : Nat} {a b c d e f x y : Value} {t : TypeId} {fr : Nat × Nat} (h : W.heap[g]? = some (.cells #[a, b, c, d, e, f, x, y] t fr)) :
    W.cell? ⟨g, 0, none⟩ = some a ∧ W.cell? ⟨g, 1, none⟩ = some b ∧ W.cell? ⟨g, 2, none⟩ = some c ∧ W.cell? ⟨g, 3, none⟩ = some d ∧ W.cell? ⟨g, 4, none⟩ = some e ∧ W.cell? ⟨g, 5, none⟩ = some f ∧ W.cell? ⟨g, 6, none⟩ = some x ∧ W.cell? ⟨g, 7, none⟩ = some y :=
  ⟨cell_of h 0, cell_of h 1, cell_of h 2, cell_of h 3, cell_of h 4, cell_of h 5, cell_of h 6, cell_of h 7⟩
mutual
theorem ind1 {M : Val → Prop} (h : ∀ v : Val, (∀ x ∈ v.kids, M x) → M v) : ∀ v : Val, M v
  | ⟨k, i, n, s, ks, vs⟩ => h ⟨k, i, n, s, ks, vs⟩ (ind2 h vs)
theorem ind2 {M : Val → Prop} (h : ∀ v : Val, (∀ x ∈ v.kids, M x) → M v) : ∀ vs : List Val, ∀ x ∈ vs, M x
  | [], x, hx => absurd hx List.not_mem_nil
  | v :: r, x, hx => by
    rcases List.mem_cons.1 hx with e | hx
    · rw [e]
      exact ind1 h v
    · exact ind2 h r x hx
end
end Go.Proofs.YtehpjidajmoggaaGreatDoor.Tre
