/- The shape of a value in memory that is its own and may be written: its texts are any, of so many bytes at most. Nothing is claimed here. -/
import Derived.Test.YtjekannajnkejaaDoorTreeFresh
import Derived.Laws.World
namespace Go.Proofs.YtjekannajnkejaaDoor.Tre
open Go.RowKit Kit Txt
open Num (Dec zero)

/-- A text stands there, and may be written over. -/
def StrAt (m : Nat) (w : World) (g i : Nat) : Prop := ∃ t : ByteArray, w.cell? ⟨g, i, none⟩ = some (.string t) ∧ t.size ≤ m ∧ w.frozen? ⟨g, i, none⟩ = false
/-- A slice of n such texts, in blocks of that kind. -/
def ShpKs (D : Nat → Prop) (m : Nat) (w : World) (u : Value) (n : Nat) : Prop :=
  ∃ a c, u = .slice a n c ∧ n ≤ c ∧ c ≤ 9223372036854775807 ∧ (n = 0 ∨ ∃ g off, a = some ⟨g, off, none⟩ ∧ D g ∧ ∀ i, i < n → StrAt m w g (off + i))
mutual
/-- A value's shape at a place. -/
def ShpAt (D : Nat → Prop) (m : Nat) (w : World) (g off : Nat) : Val → Prop
  | ⟨_, _, _, _, ks, vs⟩ => StrAt m w g (off + 5) ∧ (∃ u, w.cell? ⟨g, off + 6, none⟩ = some u ∧ ShpKs D m w u ks.length) ∧
      ∃ a c, w.cell? ⟨g, off + 7, none⟩ = some (.slice a vs.length c) ∧ vs.length ≤ c ∧ c ≤ 9223372036854775807 ∧ (vs = [] ∨ ∃ g' off', a = some ⟨g', off', none⟩ ∧ D g' ∧ ShpsAt D m w g' off' vs)
def ShpsAt (D : Nat → Prop) (m : Nat) (w : World) (g off : Nat) : List Val → Prop
  | [] => True
  | v :: r => ShpAt D m w g off v ∧ ShpsAt D m w g (off + 8) r
end
/-- A value's shape by its cells. -/
def ShpU (D : Nat → Prop) (m : Nat) (w : World) (y : Value) (v : Val) : Prop :=
  ∃ u0 u1 u2 u3 u4 st uk a c, y = .agg #[u0, u1, u2, u3, u4, .string st, uk, .slice a v.kids.length c] ∧ st.size ≤ m ∧ ShpKs D m w uk v.keys.length ∧
    v.kids.length ≤ c ∧ c ≤ 9223372036854775807 ∧ (v.kids = [] ∨ ∃ g' off', a = some ⟨g', off', none⟩ ∧ D g' ∧ ShpsAt D m w g' off' v.kids)
theorem ShpsAt.at {D : Nat → Prop} {m : Nat} {w : World} {g : Nat} : ∀ {vs : List Val} {off : Nat}, ShpsAt D m w g off vs → ∀ {i : Nat} {v : Val}, vs[i]? = some v → ShpAt D m w g (off + i * 8) v
  | [], _, _, _, _, hi => by simp at hi
  | x :: r, off, h, 0, v, hi => by
    rw [ShpsAt] at h
    simp at hi
    subst hi
    simpa using h.1
  | x :: r, off, h, i + 1, v, hi => by
    rw [ShpsAt] at h
    have := ShpsAt.at h.2 (i := i) (v := v) (by simpa using hi)
    rwa [show off + (i + 1) * 8 = off + 8 + i * 8 by omega]

/-- Texts alone, of blocks of that kind, have grown, each by k bytes at most. -/
structure StrStep (D : Nat → Prop) (k : Nat) (w w' : World) : Prop where
  os : w'.os = w.os
  tape : w'.tape = w.tape
  output : w'.output = w.output
  size : w'.heap.size = w.heap.size
  block : ∀ g, ¬ D g → w'.heap[g]? = w.heap[g]?
  cell : ∀ g i, w'.cell? ⟨g, i, none⟩ = w.cell? ⟨g, i, none⟩ ∨ ∃ s t : ByteArray, w.cell? ⟨g, i, none⟩ = some (.string s) ∧ w'.cell? ⟨g, i, none⟩ = some (.string t) ∧ t.size ≤ s.size + k
  frozen : ∀ g i, w'.frozen? ⟨g, i, none⟩ = w.frozen? ⟨g, i, none⟩
theorem StrStep.refl (D : Nat → Prop) (w : World) : StrStep D 0 w w := ⟨rfl, rfl, rfl, rfl, fun _ _ => rfl, fun _ _ => .inl rfl, fun _ _ => rfl⟩
theorem StrStep.trans {D : Nat → Prop} {k l : Nat} {a b c : World} (h : StrStep D k a b) (i : StrStep D l b c) : StrStep D (k + l) a c := by
  refine ⟨i.os.trans h.os, i.tape.trans h.tape, i.output.trans h.output, i.size.trans h.size, fun g hg => (i.block g hg).trans (h.block g hg), fun g j => ?_, fun g j => (i.frozen g j).trans (h.frozen g j)⟩
  rcases h.cell g j with e | ⟨s, t, e1, e2, e3⟩
  · rcases i.cell g j with f | ⟨s', t', f1, f2, f3⟩
    · exact .inl (f.trans e)
    · exact .inr ⟨s', t', by rw [← e]; exact f1, f2, by omega⟩
  · rcases i.cell g j with f | ⟨s', t', f1, f2, f3⟩
    · exact .inr ⟨s, t, e1, by rw [f]; exact e2, by omega⟩
    · rw [f1] at e2
      injection e2 with e2
      injection e2 with e2
      exact .inr ⟨s, t', e1, f2, by rw [e2] at f3; omega⟩
theorem StrStep.mono {D : Nat → Prop} {k l : Nat} {a b : World} (h : StrStep D k a b) (hk : k ≤ l) : StrStep D l a b :=
  ⟨h.os, h.tape, h.output, h.size, h.block, fun g i => (h.cell g i).imp id fun ⟨s, t, e1, e2, e3⟩ => ⟨s, t, e1, e2, by omega⟩, h.frozen⟩
theorem StrStep.keep {D : Nat → Prop} {k : Nat} {a b : World} (h : StrStep D k a b) {g i : Nat} {v : Value} (hc : a.cell? ⟨g, i, none⟩ = some v) (hv : ∀ t, v ≠ .string t) : b.cell? ⟨g, i, none⟩ = some v := by
  rcases h.cell g i with e | ⟨s, t, e1, e2, e3⟩
  · rw [e]
    exact hc
  · rw [hc] at e1
    injection e1 with e1
    exact absurd e1 (hv s)
theorem StrStep.str {D : Nat → Prop} {k m : Nat} {a b : World} (h : StrStep D k a b) {g i : Nat} (hs : StrAt m a g i) : StrAt (m + k) b g i := by
  obtain ⟨t, h1, h2, h3⟩ := hs
  rcases h.cell g i with e | ⟨s, t', e1, e2, e3⟩
  · exact ⟨t, by rw [e]; exact h1, by omega, by rw [h.frozen]; exact h3⟩
  · rw [h1] at e1
    injection e1 with e1
    injection e1 with e1
    exact ⟨t', e2, by rw [← e1] at e3; omega, by rw [h.frozen]; exact h3⟩
theorem StrStep.ks {D : Nat → Prop} {k m : Nat} {a b : World} (h : StrStep D k a b) {u : Value} {n : Nat} (hs : ShpKs D m a u n) : ShpKs D (m + k) b u n := by
  obtain ⟨p, c, hu, h1, h2, h3⟩ := hs
  refine ⟨p, c, hu, h1, h2, h3.imp id ?_⟩
  rintro ⟨g, off, hp, hD, hx⟩
  exact ⟨g, off, hp, hD, fun i hi => h.str (hx i hi)⟩
mutual
theorem StrStep.shp {D : Nat → Prop} {k m : Nat} {a b : World} (h : StrStep D k a b) : ∀ (v : Val) {g off : Nat}, ShpAt D m a g off v → ShpAt D (m + k) b g off v
  | ⟨_, _, _, _, ks, vs⟩, g, off, hs => by
    rw [ShpAt] at hs ⊢
    obtain ⟨h5, ⟨u, h6, hk⟩, p, c, h7, hl1, hl2, hx⟩ := hs
    refine ⟨h.str h5, ⟨u, h.keep h6 ?_, h.ks hk⟩, p, c, h.keep h7 (fun t e => by injection e), hl1, hl2, hx.imp id ?_⟩
    · obtain ⟨p', c', hu, _⟩ := hk
      rw [hu]
      exact fun t e => by injection e
    · rintro ⟨g', off', hp, hD, hv⟩
      exact ⟨g', off', hp, hD, StrStep.shps h vs hv⟩
theorem StrStep.shps {D : Nat → Prop} {k m : Nat} {a b : World} (h : StrStep D k a b) : ∀ (vs : List Val) {g off : Nat}, ShpsAt D m a g off vs → ShpsAt D (m + k) b g off vs
  | [], _, _, _ => by rw [ShpsAt]; trivial
  | v :: r, g, off, hs => by
    rw [ShpsAt] at hs ⊢
    exact ⟨StrStep.shp h v hs.1, StrStep.shps h r hs.2⟩
end
/-- One text is written over by one of one byte more. -/
theorem StrStep.one {D : Nat → Prop} {w : World} {g i : Nat} {s t : ByteArray} (hD : D g) (hc : w.cell? ⟨g, i, none⟩ = some (.string s)) (ht : t.size ≤ s.size + 1) : StrStep D 1 w (w.setCell ⟨g, i, none⟩ (.string t)) := by
  refine ⟨rfl, rfl, rfl, by simp [World.setCell], fun k hk => ?_, fun k j => ?_, fun k j => World.frozen?_setCell _ _ _ _⟩
  · show (w.heap.modify g _)[k]? = _
    rw [Array.getElem?_modify]
    have : g ≠ k := fun e => hk (e ▸ hD)
    simp [this]
  · by_cases e : (⟨g, i, none⟩ : Addr) = ⟨k, j, none⟩
    · rw [← e]
      exact .inr ⟨s, t, hc, World.cell?_setCell_same _ _ _ hc, ht⟩
    · exact .inl (World.cell?_setCell_other _ _ _ _ e)
theorem StrAt.keep {m : Nat} {w w' : World} {g i : Nat} (h : StrAt m w g i) (hk : w'.heap[g]? = w.heap[g]?) : StrAt m w' g i := by
  obtain ⟨t, h1, h2, h3⟩ := h
  refine ⟨t, ?_, h2, ?_⟩
  · rw [← h1]
    unfold World.cell?
    rw [hk]
  · rw [← h3]
    unfold World.frozen?
    rw [hk]
theorem cell_keep {w w' : World} {g i : Nat} {v : Value} (h : w.cell? ⟨g, i, none⟩ = some v) (hk : w'.heap[g]? = w.heap[g]?) : w'.cell? ⟨g, i, none⟩ = some v := by
  rw [← h]
  unfold World.cell?
  rw [hk]
theorem ShpKs.keep {D : Nat → Prop} {m : Nat} {w w' : World} {u : Value} {n : Nat} (h : ShpKs D m w u n) (hk : ∀ g, D g → w'.heap[g]? = w.heap[g]?) : ShpKs D m w' u n := by
  obtain ⟨a, c, hu, h1, h2, h3⟩ := h
  refine ⟨a, c, hu, h1, h2, h3.imp id ?_⟩
  rintro ⟨g, off, ha, hD, hx⟩
  exact ⟨g, off, ha, hD, fun i hi => (hx i hi).keep (hk g hD)⟩
mutual
theorem ShpAt.keep {D : Nat → Prop} {m : Nat} {w w' : World} (hk : ∀ g, D g → w'.heap[g]? = w.heap[g]?) : ∀ (v : Val) {g off : Nat}, D g → ShpAt D m w g off v → ShpAt D m w' g off v
  | ⟨_, _, _, _, ks, vs⟩, g, off, hg, h => by
    rw [ShpAt] at h ⊢
    obtain ⟨h5, ⟨u, h6, hks⟩, a, c, h7, hl1, hl2, hx⟩ := h
    refine ⟨h5.keep (hk g hg), ⟨u, cell_keep h6 (hk g hg), hks.keep hk⟩, a, c, cell_keep h7 (hk g hg), hl1, hl2, hx.imp id ?_⟩
    rintro ⟨g', off', ha, hD, hv⟩
    exact ⟨g', off', ha, hD, ShpsAt.keep hk vs hD hv⟩
theorem ShpsAt.keep {D : Nat → Prop} {m : Nat} {w w' : World} (hk : ∀ g, D g → w'.heap[g]? = w.heap[g]?) : ∀ (vs : List Val) {g off : Nat}, D g → ShpsAt D m w g off vs → ShpsAt D m w' g off vs
  | [], _, _, _, _ => by rw [ShpsAt]; trivial
  | v :: r, g, off, hg, h => by
    rw [ShpsAt] at h ⊢
    exact ⟨ShpAt.keep hk v hg h.1, ShpsAt.keep hk r hg h.2⟩
end
/-- In a variable of its own. -/
theorem ShpU.box {D : Nat → Prop} {m : Nat} {w w' : World} {u0 u1 u2 u3 u4 u5 u6 u7 : Value} {v : Val} (h : ShpU D m w (.agg #[u0, u1, u2, u3, u4, u5, u6, u7]) v) {g : Nat} {t : TypeId} (hb : w'.heap[g]? = some (.cells #[u0, u1, u2, u3, u4, u5, u6, u7] t (0, 0)))
    (hk : ∀ k, D k → w'.heap[k]? = w.heap[k]?) : ShpAt D m w' g 0 v := by
  obtain ⟨v0, v1, v2, v3, v4, st, uk, a, c, e, h1, h2, h3, h4, h5⟩ := h
  injection e with e
  injection e with e
  injection e with e0 e
  injection e with e1 e
  injection e with e2 e
  injection e with e3 e
  injection e with e4 e
  injection e with e5 e
  injection e with e6 e
  injection e with e7 e
  obtain ⟨_, _, _, _, ks, vs⟩ := v
  rw [ShpAt]
  refine ⟨⟨st, by rw [cell_of hb]; simp [e5], h1, free_of hb _⟩, ⟨uk, by rw [cell_of hb]; simp [e6], h2.keep hk⟩, a, c, by rw [cell_of hb]; simp [e7, Val.kids], h3, h4, h5.imp id ?_⟩
  rintro ⟨g', off', ha, hD, hv⟩
  exact ⟨g', off', ha, hD, ShpsAt.keep hk vs hD hv⟩
end Go.Proofs.YtjekannajnkejaaDoor.Tre
