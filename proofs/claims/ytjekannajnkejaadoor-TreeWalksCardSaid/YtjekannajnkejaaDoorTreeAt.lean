/- What stands in a value key by key (pure). Nothing is claimed here. -/
import Derived.Test.YtjekannajnkejaaDoorTreeRef
import Derived.Test.YtjekannajnkejaaDoorTreeFresh
import Derived.Test.YtjekannajnkejaaDoorTreeGet
namespace Go.Proofs.YtjekannajnkejaaDoor.Tre
open Go.RowKit Kit Txt
open Num (Dec zero)

/-- The value that the keys lead to. -/
def ats (v : Val) : List (List UInt8) → Option Val
  | [] => some v
  | k :: r => (get v k).bind fun x => ats x r
theorem ats_snoc : ∀ (l : List (List UInt8)) (v : Val) (k : List UInt8), ats v (l ++ [k]) = (ats v l).bind fun x => get x k
  | [], v, k => by simp [ats]
  | a :: l, v, k => by
    simp only [List.cons_append, ats]
    cases get v a with
    | none => rfl
    | some x => exact ats_snoc l x k
theorem ats_none : ∀ (l m : List (List UInt8)) (v : Val), ats v l = none → ats v (l ++ m) = none
  | [], m, v, h => by simp [ats] at h
  | a :: l, m, v, h => by
    simp only [List.cons_append, ats] at h ⊢
    cases hg : get v a with
    | none => rfl
    | some x =>
      rw [hg] at h
      exact ats_none l m x h
theorem ats_take {v : Val} {l : List (List UInt8)} {j : Nat} (h : j < l.length) : ats v (l.take (j + 1)) = (ats v (l.take j)).bind fun x => get x l[j] := by
  rw [List.take_succ_eq_append_getElem h]
  exact ats_snoc _ v _
theorem ats_stop {v : Val} {l : List (List UInt8)} {j : Nat} (h : ats v (l.take j) = none) : ats v l = none := by
  rw [← List.take_append_drop j l]
  exact ats_none _ _ v h
theorem get_kid {v x : Val} {k : List UInt8} (h : get v k = some x) : x ∈ v.kids := by
  unfold get at h
  split at h
  · split at h
    · exact List.mem_of_getElem? h
    · simp at h
  · simp at h
theorem mild_none : Mild none' := by
  refine ⟨1, ?_⟩
  unfold none'
  rw [Fine]
  exact ⟨by decide, by simp, by simp [zero], by simp, by rw [Fines]; trivial⟩
theorem mild_get {v : Val} {k : List UInt8} (h : Mild v) : Mild ((get v k).getD none') := by
  cases hg : get v k with
  | none => exact mild_none
  | some x => exact h.kids v x (get_kid hg)
theorem mild_ats : ∀ (l : List (List UInt8)) (v : Val), Mild v → Mild ((ats v l).getD none')
  | [], v, h => by simpa [ats] using h
  | k :: l, v, h => by
    simp only [ats]
    cases hg : get v k with
    | none => exact mild_none
    | some x => exact mild_ats l x (h.kids v x (get_kid hg))
/-- A value by its cells, all its memory in blocks of that kind. -/
def HoldX (X : Nat → Prop) (w : World) (u : Value) (v : Val) : Prop := ∃ cs : List Value, u = .agg cs.toArray ∧ HoldP X w cs v
theorem HoldX.hold {X : Nat → Prop} {w : World} {u : Value} {v : Val} (h : HoldX X w u v) : HoldV w u v := by
  obtain ⟨cs, hu, hc⟩ := h
  exact ⟨cs, hu, HoldP.hold v hc⟩
theorem HoldX.keep {X : Nat → Prop} {w w' : World} {u : Value} {v : Val} (h : HoldX X w u v) (hz : w.heap.size ≤ w'.heap.size) (hk : ∀ g, X g → g < w.heap.size → w'.heap[g]? = w.heap[g]?) : HoldX X w' u v := by
  obtain ⟨cs, hu, hc⟩ := h
  exact ⟨cs, hu, HoldP.keep hz hk v hc⟩
theorem HoldX.below {X : Nat → Prop} {w w' : World} {u : Value} {v : Val} (h : HoldX X w u v) (b : Below w.heap.size w w') : HoldX X w' u v := h.keep b.size fun g _ hg => b.block g hg
theorem HoldX.mono {X Y : Nat → Prop} {w : World} {u : Value} {v : Val} (h : HoldX X w u v) (hXY : ∀ g, X g → g < w.heap.size → Y g) : HoldX Y w u v := by
  obtain ⟨cs, hu, hc⟩ := h
  exact ⟨cs, hu, HoldP.mono hXY v hc⟩
theorem HoldV.x {w : World} {u : Value} {v : Val} (h : HoldV w u v) : HoldX (fun _ => True) w u v := by
  obtain ⟨cs, hu, hc⟩ := h
  exact ⟨cs, hu, HoldP.of v hc⟩
theorem setc_other {W : World} {g k i : Nat} (v : Value) (hk : k ≠ g) : (W.setCell ⟨g, i, none⟩ v).heap[k]? = W.heap[k]? := by
  show (W.heap.modify g _)[k]? = _
  rw [Array.getElem?_modify]
  simp [Ne.symm hk]
theorem set8_other {W : World} {g k : Nat} (hk : k ≠ g) (a b c d e f x y : Value) : ((((((((W.setCell ⟨g, 0, none⟩ a).setCell ⟨g, 1, none⟩ b).setCell ⟨g, 2, none⟩ c).setCell ⟨g, 3, none⟩ d).setCell ⟨g, 4, none⟩ e).setCell ⟨g, 5, none⟩ f).setCell ⟨g, 6, none⟩ x).setCell ⟨g, 7, none⟩ y).heap[k]? = W.heap[k]? := by
  simp only [setc_other _ hk]
theorem set8_size {W : World} {g : Nat} (a b c d e f x y : Value) : ((((((((W.setCell ⟨g, 0, none⟩ a).setCell ⟨g, 1, none⟩ b).setCell ⟨g, 2, none⟩ c).setCell ⟨g, 3, none⟩ d).setCell ⟨g, 4, none⟩ e).setCell ⟨g, 5, none⟩ f).setCell ⟨g, 6, none⟩ x).setCell ⟨g, 7, none⟩ y).heap.size = W.heap.size := by
  simp [World.setCell, Array.size_modify]
theorem set8_own {W : World} {g : Nat} {a' b' c' d' e' f' x' y' : Value} {t : TypeId} {fr : Nat × Nat} (h : W.heap[g]? = some (.cells #[a', b', c', d', e', f', x', y'] t fr)) (a b c d e f x y : Value) : ((((((((W.setCell ⟨g, 0, none⟩ a).setCell ⟨g, 1, none⟩ b).setCell ⟨g, 2, none⟩ c).setCell ⟨g, 3, none⟩ d).setCell ⟨g, 4, none⟩ e).setCell ⟨g, 5, none⟩ f).setCell ⟨g, 6, none⟩ x).setCell ⟨g, 7, none⟩ y).heap[g]? = some (.cells #[a, b, c, d, e, f, x, y] t fr) := by
  have := (set_of (set_of (set_of (set_of (set_of (set_of (set_of (set_of h 0 a) 1 b) 2 c) 3 d) 4 e) 5 f) 6 x) 7 y)
  simpa using this
end Go.Proofs.YtjekannajnkejaaDoor.Tre
