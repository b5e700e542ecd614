/- Slices of slices of bytes: what one holds; one appended to; how an argument of that type is opened. Nothing is claimed here. -/
import Derived.Test.YtkbdahbnjklkoaaBytes
namespace Go.Proofs.Ytkbdahbnjklkoaa.Sls
open Go.RowKit Kit Byt Go.ChangeShapes Go.WideShapes

theorem infoBytes : (Try.prog.info? 22).map (fun i => (i.zero, i.size, i.bytes)) = some (some (.slice none 0 0), 1, 24) := by kernel_rfl

/-- Values that are slices, each of which holds one of the lists, in the world w. -/
def Parts (w : World) (vs : List Value) (ls : List (List Nat)) : Prop := vs.length = ls.length ∧ ∀ (i : Nat) (u : Value) (l : List Nat), vs[i]? = some u → ls[i]? = some l → Bs w u l
theorem Parts.nil (w : World) : Parts w [] [] := ⟨rfl, fun i u l h => by simp at h⟩
theorem Parts.snoc {w : World} {vs : List Value} {ls : List (List Nat)} {u : Value} {l : List Nat} (h : Parts w vs ls) (hu : Bs w u l) : Parts w (vs ++ [u]) (ls ++ [l]) := by
  refine ⟨by simp [h.1], fun i x y hx hy => ?_⟩
  by_cases hi : i < vs.length
  · rw [List.getElem?_append_left hi] at hx
    rw [List.getElem?_append_left (by rw [← h.1]; exact hi)] at hy
    exact h.2 i x y hx hy
  · rw [List.getElem?_append_right (by omega)] at hx
    rw [List.getElem?_append_right (by rw [← h.1]; omega), ← h.1] at hy
    obtain ⟨k, hk⟩ : ∃ k, i - vs.length = k := ⟨_, rfl⟩
    rw [hk] at hx hy
    match k, hx, hy with
    | 0, hx, hy =>
      simp at hx hy
      subst hx; subst hy
      exact hu
    | k + 1, hx, hy => simp at hx
theorem Parts.mono {w w' : World} {vs : List Value} {ls : List (List Nat)} (h : Parts w vs ls) (k : ∀ u l, u ∈ vs → Bs w u l → Bs w' u l) : Parts w' vs ls :=
  ⟨h.1, fun i u l hu hl => k u l (List.mem_of_getElem? hu) (h.2 i u l hu hl)⟩
theorem Parts.below {w w' : World} {vs : List Value} {ls : List (List Nat)} (h : Parts w vs ls) (b : Below w.heap.size w w') : Parts w' vs ls := h.mono fun _ _ _ k => k.below b

/-- The slice v holds slices of the lists. -/
def Ss (w : World) (v : Value) (ls : List (List Nat)) : Prop :=
  ∃ a c, v = .slice a ls.length c ∧ ls.length ≤ c ∧ (ls = [] ∨ ∃ g off, a = some ⟨g, off, none⟩ ∧ g < w.heap.size ∧ ∀ (i : Nat) (l : List Nat), ls[i]? = some l → ∃ u, w.cell? ⟨g, off + i, none⟩ = some u ∧ Bs w u l)
theorem Ss.below {w w' : World} {v : Value} {ls : List (List Nat)} (h : Ss w v ls) (b : Below w.heap.size w w') : Ss w' v ls := by
  obtain ⟨a, c, rfl, hc, h⟩ := h
  refine ⟨a, c, rfl, hc, ?_⟩
  rcases h with h | ⟨g, off, ha, hg, hx⟩
  · exact .inl h
  · refine .inr ⟨g, off, ha, Nat.lt_of_lt_of_le hg b.size, fun i l hi => ?_⟩
    obtain ⟨u, hu, hb⟩ := hx i l hi
    exact ⟨u, (b.cell (p := ⟨g, off + i, none⟩) hg).trans hu, hb.below b⟩
theorem ss_of_own {w : World} {base n : Nat} {v : Value} {vs : List Value} {ls : List (List Nat)} (h : w.ownsRow base 22 1 v n vs) (hn : n = ls.length) (hp : Parts w vs ls) : Ss w v ls := by
  subst hn
  rcases h.2 with ⟨rfl, h0⟩ | ⟨g, cap, cur, rfl, _, hg, hc, _, _, ht⟩
  · have : ls = [] := List.length_eq_zero_iff.1 h0
    subst this
    exact ⟨none, 0, rfl, Nat.le_refl _, .inl rfl⟩
  · refine ⟨some ⟨g, 0, none⟩, cap, rfl, hc, .inr ⟨g, 0, rfl, lt_of_heap hg, fun i l hi => ?_⟩⟩
    have hlt : i < vs.length := by rw [hp.1]; exact (List.getElem?_eq_some_iff.1 hi).1
    obtain ⟨x, h1⟩ : ∃ x, vs[i]? = some x := ⟨vs[i], List.getElem?_eq_getElem hlt⟩
    refine ⟨x, ?_, hp.2 i _ l h1 hi⟩
    rw [← ht, List.getElem?_take] at h1
    rw [cell_of hg, Nat.zero_add]
    split at h1
    · rw [← Array.getElem?_toList]
      exact h1
    · cases h1

/-- A store below a row's blocks leaves it. -/
theorem own_set {w : World} {base n size b i : Nat} {e : TypeId} {v x : Value} {vs : List Value} (h : w.ownsRow base e size v n vs) (hb : b < base) : (w.setCell ⟨b, i, none⟩ x).ownsRow base e size v n vs := by
  cases hv : v.ownBlock with
  | none => exact h.kept (grown_set w b i x) (.inl hv)
  | some j => exact h.kept (grown_set w b i x) (.inr (by rw [hv]; intro e; injection e with e; have := (h.lt j hv).1; omega))

/-- 'append(v, u)' of a slice of the call's own, in a walk: u lies in a new block. -/
theorem wp_append_one {ops : Array Oper} {rest : List Oper} {o : Oper} {a : Act} {w : World} {Q : Exit → Act → World → Prop} (hgd : o.guard = none) (s x : Operand)
    (ho : o.op = .call { callee := .builtin .append, args := #[s, x], argTypes := #[49, 49] }) (base : Nat) {v : Value} {g k c : Nat} {ua : Option Addr} {un uc : Nat} {vs : List Value} {t : TypeId} {fr : Nat × Nat} (hs : a.eval s = v) (hx : a.eval x = .slice (some ⟨g, 0, none⟩) 1 c)
    (hown : w.ownsRow base 22 1 v k vs) (hb : w.heap[g]? = some (.cells #[.slice ua un uc] t fr)) (h63 : k ≤ 1000000000) (hbase : base ≤ w.heap.size)
    (h : ∀ v' w', w'.ownsRow base 22 1 v' (k + 1) (vs ++ [.slice ua un uc]) → w.grownBy w' v.ownBlock → wpList Try.prog ops Q rest (a.put o.dst v') w') : wpList Try.prog ops Q (o :: rest) a w := by
  obtain ⟨i0, hi, hz0, hz1, hz2⟩ := info_parts infoBytes
  refine wpList_append_own (P := Try.prog) w hgd s x 49 ho base 22 i0 (.slice none 0 0) 1 24 Try.underlying49 hi hz0 hz1 hz2 rfl (by decide) v k vs hs hown ⟨g, 0, none⟩ 1 c [.slice ua un uc] hx rfl ?_ (by simp [Value.oneCell']) (by unfold maxLen; omega) (by omega) hbase ?_
  · intro j u hj
    match j, hj with
    | 0, hj =>
      simp at hj
      subst hj
      have e : (⟨g, 0, none⟩ : Addr).add 0 = ⟨g, 0 + 0, none⟩ := Addr.add_lit _ _ _
      rw [e]
      exact cell_of hb 0
  · intro v' w' h2 h3 _
    exact h v' w' h2 h3

/-- The values that a slice of slices holds. -/
theorem Ss.vals {w : World} {a : Option Addr} {n c : Nat} {ls : List (List Nat)} (h : Ss w (.slice a n c) ls) : ∃ us, Parts w us ls ∧ n = ls.length ∧ n ≤ c ∧ (∀ u ∈ us, u.oneCell' = true) ∧
    (us = [] ∨ ∃ g off, a = some ⟨g, off, none⟩ ∧ ∀ (i : Nat) (u : Value), us[i]? = some u → w.cell? ⟨g, off + i, none⟩ = some u) := by
  obtain ⟨a', c', he, hc, h⟩ := h
  injection he with e1 e2 e3
  subst e1; subst e2; subst e3
  rcases h with h | ⟨g, off, ha, _, hx⟩
  · subst h
    exact ⟨[], Parts.nil w, rfl, hc, by simp, .inl rfl⟩
  · obtain ⟨us, hl, hu⟩ := choose_list (n := ls.length) (R := fun i u => w.cell? ⟨g, off + i, none⟩ = some u ∧ ∀ l, ls[i]? = some l → Bs w u l) fun i hi => by
      obtain ⟨u, h1, h2⟩ := hx i ls[i] (List.getElem?_eq_getElem hi)
      refine ⟨u, h1, fun l hl => ?_⟩
      rw [List.getElem?_eq_getElem hi] at hl
      injection hl with hl
      subst hl
      exact h2
    refine ⟨us, ⟨hl, fun i u l h1 h2 => (hu i u h1).2 l h2⟩, rfl, hc, fun u hm => ?_, .inr ⟨g, off, ha, fun i u h1 => (hu i u h1).1⟩⟩
    obtain ⟨i, hi⟩ := List.getElem?_of_mem hm
    have hlt : i < ls.length := by rw [← hl]; exact (List.getElem?_eq_some_iff.1 hi).1
    obtain ⟨_, va, vc, rfl, _⟩ := (hu i u hi).2 ls[i] (List.getElem?_eq_getElem hlt)
    rfl
theorem vals_below {w w' : World} {a : Option Addr} {us : List Value} (h : us = [] ∨ ∃ g off, a = some ⟨g, off, none⟩ ∧ ∀ (i : Nat) (u : Value), us[i]? = some u → w.cell? ⟨g, off + i, none⟩ = some u) (b : Below w.heap.size w w') :
    us = [] ∨ ∃ g off, a = some ⟨g, off, none⟩ ∧ ∀ (i : Nat) (u : Value), us[i]? = some u → w'.cell? ⟨g, off + i, none⟩ = some u := by
  rcases h with h | ⟨g, off, ha, hx⟩
  · exact .inl h
  · exact .inr ⟨g, off, ha, fun i u hi => (b.cell (p := ⟨g, off + i, none⟩) (World.block_lt_of_cell? _ _ (hx i u hi))).trans (hx i u hi)⟩
theorem Parts.app {w : World} {vs us : List Value} {ls ms : List (List Nat)} (h : Parts w vs ls) (k : Parts w us ms) : Parts w (vs ++ us) (ls ++ ms) := by
  refine ⟨by simp [h.1, k.1], fun i x y hx hy => ?_⟩
  by_cases hi : i < vs.length
  · rw [List.getElem?_append_left hi] at hx
    rw [List.getElem?_append_left (by rw [← h.1]; exact hi)] at hy
    exact h.2 i x y hx hy
  · rw [List.getElem?_append_right (by omega)] at hx
    rw [List.getElem?_append_right (by rw [← h.1]; omega), ← h.1] at hy
    exact k.2 _ x y hx hy

theorem own_empty (w : World) (base : Nat) (h : base ≤ w.heap.size) : (w.alloc (.cells #[] 22)).ownsRow base 22 1 (.slice (some ⟨w.heap.size, 0, none⟩) 0 0) 0 [] :=
  ⟨by simp, .inr ⟨w.heap.size, 0, #[], rfl, h, World.alloc_heap_new w _, Nat.le_refl _, by unfold maxLen; omega, by simp, by simp⟩⟩

/-- 'append(v, l...)' of a slice of the call's own. -/
theorem append_slices (w : World) (base : Nat) (ty : TypeId) {v : Value} {ua : Option Addr} {k n c : Nat} {vs us : List Value} (hown : w.ownsRow base 22 1 v k vs) (hl : us.length = n) (hnc : n ≤ c) (h1 : ∀ u ∈ us, u.oneCell' = true)
    (hu : us = [] ∨ ∃ g off, ua = some ⟨g, off, none⟩ ∧ ∀ (i : Nat) (u : Value), us[i]? = some u → w.cell? ⟨g, off + i, none⟩ = some u) (h63 : k + n ≤ 1000000000) (hbase : base ≤ w.heap.size) :
    ∃ v' w', (Builtin.append_ #[49, 49] ty #[v, .slice ua n c]).run Try.prog w = .ok v' w' ∧ w'.ownsRow base 22 1 v' (k + n) (vs ++ us) ∧ w.grownBy w' v.ownBlock := by
  obtain ⟨i0, hi, hz0, hz1, hz2⟩ := info_parts infoBytes
  have hmax : k + n ≤ maxLen := by unfold maxLen; omega
  cases ua with
  | some ad =>
    have hnews : ∀ j x, us[j]? = some x → w.cell? (ad.add j) = some x := by
      rcases hu with rfl | ⟨g, off, ha, hx⟩
      · intro j x hj; simp at hj
      · injection ha with ha
        subst ha
        intro j x hj
        have e : (⟨g, off, none⟩ : Addr).add j = ⟨g, off + j, none⟩ := Addr.add_lit _ _ _
        rw [e]
        exact hx j x hj
    obtain ⟨v', w', h1, h2, h3, _⟩ := run_append_own (P := Try.prog) w base 49 ty 22 i0 (.slice none 0 0) 1 24 Try.underlying49 hi hz0 hz1 hz2 rfl (by decide) v k vs hown ad n c us (by rw [hl, Nat.mul_one]) hnews h1 hmax (by omega) hbase
    exact ⟨v', w', h1, h2, h3⟩
  | none =>
    have hus : us = [] := by
      rcases hu with h | ⟨_, _, ha, _⟩
      · exact h
      · cases ha
    subst hus
    subst hl
    refine ⟨v, w, ?_, by simpa using hown, ⟨rfl, rfl, rfl, Nat.le_refl _, fun _ _ _ => rfl⟩⟩
    obtain ⟨va, vc, rfl, hvc⟩ := own_slice hown
    have hu := Try.underlying49
    cases va <;> simp [Builtin.append_, Builtin.lenOf, run_underlying hu, sizeOf, typeInfo, hi, hvc, storeCells, Builtin.firstCells]
theorem wp_append_slices {ops : Array Oper} {rest : List Oper} {o : Oper} {a : Act} {w : World} {Q : Exit → Act → World → Prop} (hgd : o.guard = none) (s x : Operand)
    (ho : o.op = .call { callee := .builtin .append, args := #[s, x], argTypes := #[49, 49] }) (base : Nat) {v : Value} {ua : Option Addr} {k n c : Nat} {vs us : List Value} (hs : a.eval s = v) (hx : a.eval x = .slice ua n c)
    (hown : w.ownsRow base 22 1 v k vs) (hl : us.length = n) (hnc : n ≤ c) (h1 : ∀ u ∈ us, u.oneCell' = true)
    (hu : us = [] ∨ ∃ g off, ua = some ⟨g, off, none⟩ ∧ ∀ (i : Nat) (u : Value), us[i]? = some u → w.cell? ⟨g, off + i, none⟩ = some u) (h63 : k + n ≤ 1000000000) (hbase : base ≤ w.heap.size)
    (h : ∀ v' w', w'.ownsRow base 22 1 v' (k + n) (vs ++ us) → w.grownBy w' v.ownBlock → wpList Try.prog ops Q rest (a.put o.dst v') w') : wpList Try.prog ops Q (o :: rest) a w :=
  wpList_plain hgd fun K hK => by
    obtain ⟨v', w', hr, h2, h3⟩ := append_slices w base o.type hown hl hnc h1 hu h63 hbase
    subst hs
    simp [Oper.wp, Oper.upon, execOp, ho, resolve, invoke, builtin, hx, hr, Result.andThen]
    exact hK _ _ (h v' w' h2 h3)
end Go.Proofs.Ytkbdahbnjklkoaa.Sls
