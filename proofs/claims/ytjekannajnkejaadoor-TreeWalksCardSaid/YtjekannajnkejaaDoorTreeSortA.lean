/- The contract of the document's own answer for layer 8 (package tabulariumref08): Sort, of values that are whole. Nothing is claimed here. -/
import Derived.Test.YtjekannajnkejaaDoorTreeSortO
namespace Go.Proofs.YtjekannajnkejaaDoor.Tre
open Go.RowKit Kit Txt

theorem counts_mem : ∀ {vs : List Val} {x : Val}, x ∈ vs → count x ≤ counts vs
  | [], _, h => absurd h List.not_mem_nil
  | v :: r, x, h => by
    rw [counts]
    rcases List.mem_cons.1 h with e | h
    · rw [e]
      omega
    · have := counts_mem h
      omega
theorem counts_len : ∀ vs : List Val, vs.length ≤ counts vs
  | [] => Nat.zero_le _
  | v :: r => by
    rw [counts, List.length_cons]
    have := counts_len r
    have : 1 ≤ count v := by
      obtain ⟨k, b, n, s, ks, vs⟩ := v
      rw [count]
      omega
    omega
theorem count_kids {v : Val} : v.kids.length < count v ∧ ∀ x ∈ v.kids, count x < count v := by
  obtain ⟨k, b, n, s, ks, vs⟩ := v
  rw [count]
  unfold Val.kids
  dsimp only
  have := counts_len vs
  refine ⟨by omega, fun x hx => ?_⟩
  have := counts_mem hx
  omega
theorem counts_perm {a b : List Val} (h : a.Perm b) : counts a = counts b := by
  induction h with
  | nil => rfl
  | cons x _ ih => rw [counts, counts, ih]
  | swap x y l => rw [counts, counts, counts, counts]; omega
  | trans _ _ h1 h2 => exact h1.trans h2
mutual
theorem sort_count : ∀ v : Val, Whole v → count (sort v) = count v
  | ⟨k, i, n, s, ks, vs⟩, h => by
    rw [Whole] at h
    have ih := sorts_count vs h.2
    have ho := h.1
    unfold Own Val.kind Val.keys Val.kids at ho
    dsimp only at ho
    rw [sort_eq]
    unfold Val.kind Val.keys Val.kids
    dsimp only
    by_cases h6 : k = 6
    · have hl := ho.2.2.2.2.2.2.2.2.2.1 h6
      rw [if_pos h6, count, count, counts_perm (rows_kids hl), ih, (rows_keys hl).length_eq]
    · rw [if_neg h6, count, count, ih, ho.2.2.2.2.2.2.1 h6]
theorem sorts_count : ∀ vs : List Val, Wholes vs → counts (sorts vs) = counts vs
  | [], _ => rfl
  | v :: r, h => by
    rw [Wholes] at h
    rw [sorts, counts, counts, sort_count v h.1, sorts_count r h.2]
end
theorem fines_perm {d : Nat} {a b : List Val} (h : a.Perm b) : Fines d a ↔ Fines d b := by
  rw [fines_iff, fines_iff]
  exact ⟨fun k v hv => k v (h.mem_iff.2 hv), fun k v hv => k v (h.mem_iff.1 hv)⟩
mutual
theorem sort_fine : ∀ (v : Val) (d : Nat), Whole v → Fine d v → Fine d (sort v)
  | ⟨k, i, n, s, ks, vs⟩, d, h, hf => by
    rw [Whole] at h
    rw [Fine] at hf
    have ih := sorts_fine vs (d + 1) h.2 hf.2.2.2.2
    have ho := h.1
    unfold Own Val.kind Val.keys Val.kids at ho
    dsimp only at ho
    rw [sort_eq]
    unfold Val.kind Val.is Val.num Val.str Val.keys Val.kids
    dsimp only
    by_cases h6 : k = 6
    · have hl := ho.2.2.2.2.2.2.2.2.2.1 h6
      rw [if_pos h6, Fine]
      exact ⟨hf.1, hf.2.1, hf.2.2.1, fun x hx => hf.2.2.2.1 x ((rows_keys hl).mem_iff.1 hx), (fines_perm (rows_kids hl)).2 ih⟩
    · rw [if_neg h6, Fine]
      exact ⟨hf.1, hf.2.1, hf.2.2.1, fun x hx => absurd hx List.not_mem_nil, ih⟩
theorem sorts_fine : ∀ (vs : List Val) (d : Nat), Wholes vs → Fines d vs → Fines d (sorts vs)
  | [], _, _, _ => by rw [sorts, Fines]; trivial
  | v :: r, d, h, hf => by
    rw [Wholes] at h
    rw [Fines] at hf
    rw [sorts, Fines]
    exact ⟨sort_fine v d h.1 hf.1, sorts_fine r d h.2 hf.2⟩
end
theorem rsort_any : ∀ (v : Val) (w : World) (u : Value), Whole v → count v < 1000000 → HoldV w u v → Calls Tryd.prog 16 #[u] w fun e w' => (∃ y, e = .returned y ∧ HoldF w.heap.size w' y (sort v)) ∧ Below w.heap.size w w' := by
  refine ind1 fun v ih w u hw hc h => ?_
  have hck := count_kids (v := v)
  have hwk := whole_iff.1 hw
  have ih' : ∀ x ∈ v.kids, ∀ (w : World) (u : Value), HoldV w u x → Calls Tryd.prog 16 #[u] w fun e w' => (∃ y, e = .returned y ∧ HoldF w.heap.size w' y (sort x)) ∧ Below w.heap.size w w' :=
    fun x hx w u h => ih x hx w u (hwk.2 x hx) (by have := hck.2 x hx; omega) h
  by_cases h6 : v.kind = 6
  · have ho := hwk.1
    unfold Own at ho
    exact rsort_obj h6 (ho.2.2.2.2.2.2.2.2.2.1 h6) ho.2.2.2.2.2.2.2.2.2.2.2 ih' (by omega) h
  · exact rsort_list h6 ih' (by omega) h
end Go.Proofs.YtjekannajnkejaaDoor.Tre
