/- What a call may have changed: the blocks from lo to hi (an object's own), nothing else that was there. Nothing is claimed here. -/
import Derived.Test.YtkbdahbnjklkoaaBytes
namespace Go.Proofs.Ytkbdahbnjklkoaa
open Go.RowKit Kit Byt

structure Off (lo hi : Nat) (w w' : World) : Prop where
  os : w'.os = w.os
  tape : w'.tape = w.tape
  output : w'.output = w.output
  size : w.heap.size ≤ w'.heap.size
  block : ∀ k, k < w.heap.size → ¬ (lo ≤ k ∧ k < hi) → w'.heap[k]? = w.heap[k]?

namespace Off
theorem refl (lo hi : Nat) (w : World) : Off lo hi w w := ⟨rfl, rfl, rfl, Nat.le_refl _, fun _ _ _ => rfl⟩
theorem trans {lo hi : Nat} {a b c : World} (h : Off lo hi a b) (k : Off lo hi b c) : Off lo hi a c :=
  ⟨k.os.trans h.os, k.tape.trans h.tape, k.output.trans h.output, Nat.le_trans h.size k.size, fun i hi' hn => (k.block i (Nat.lt_of_lt_of_le hi' h.size) hn).trans (h.block i hi' hn)⟩
theorem of_below {lo hi : Nat} {w w' : World} (h : Below w.heap.size w w') : Off lo hi w w' := ⟨h.os, h.tape, h.output, h.size, fun k hk _ => h.block k hk⟩
theorem below {lo hi b : Nat} {w w' : World} (h : Off lo hi w w') (hb : b ≤ lo) (hw : b ≤ w.heap.size) : Below b w w' := ⟨h.os, h.tape, h.output, h.size, fun k hk => h.block k (by omega) (by omega)⟩
/-- A block that is none of the object's is as it was. -/
theorem heap {lo hi b : Nat} {w w' : World} {x : Obj} (h : Off lo hi w w') (hx : w.heap[b]? = some x) (hb : b < lo ∨ hi ≤ b) : w'.heap[b]? = some x := (h.block b (lt_of_heap hx) (by omega)).trans hx
theorem bs {lo hi g off n c : Nat} {w w' : World} {l : List Nat} (h : Off lo hi w w') (hx : Bs w (.slice (some ⟨g, off, none⟩) n c) l) (hb : g < lo ∨ hi ≤ g) : Bs w' (.slice (some ⟨g, off, none⟩) n c) l := by
  obtain ⟨hl, a', c', he, hc, hx⟩ := hx
  injection he with e1 e2 e3
  subst e1; subst e2; subst e3
  refine ⟨hl, _, _, rfl, hc, ?_⟩
  rcases hx with hx | ⟨g', off', ha, hg, hx⟩
  · exact .inl hx
  · injection ha with ha
    injection ha with h1 h2
    subst h1; subst h2
    refine .inr ⟨g, off, rfl, Nat.lt_of_lt_of_le hg h.size, fun i x hi' => ?_⟩
    rw [World.cell?_of_block (a := ⟨g, off + i, none⟩) (h.block g hg (by omega))]
    exact hx i x hi'
end Off
end Go.Proofs.Ytkbdahbnjklkoaa
