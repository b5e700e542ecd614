/- A part of what twice_holds leans on (its texts, put together). Nothing is claimed here. -/
import Derived.Laws.World
import Derived.Test.YtlfbnfphocpgeaaGreatDoorTw27
namespace Go.Proofs.YtlfbnfphocpgeaaGreatDoor.Tre
open Go.RowKit Kit Txt
open Num (Dec zero)
def StrAt (m : Nat) (w : World) (g i : Nat) : Prop := ∃ t : ByteArray, w.cell? ⟨g, i, none⟩ = some (.string t) ∧ t.size ≤ m ∧ w.frozen? ⟨g, i, none⟩ = false
def ShpKs (D : Nat → Prop) (m : Nat) (w : World) (u : Value) (n : Nat) : Prop :=
  ∃ a c, u = .slice a n c ∧ n ≤ c ∧ c ≤ 9223372036854775807 ∧ (n = 0 ∨ ∃ g off, a = some ⟨g, off, none⟩ ∧ D g ∧ ∀ i, i < n → StrAt m w g (off + i))
mutual
def ShpAt (D : Nat → Prop) (m : Nat) (w : World) (g off : Nat) : Val → Prop
  | ⟨_, _, _, _, ks, vs⟩ => StrAt m w g (off + 5) ∧ (∃ u, w.cell? ⟨g, off + 6, none⟩ = some u ∧ ShpKs D m w u ks.length) ∧
      ∃ a c, w.cell? ⟨g, off + 7, none⟩ = some (.slice a vs.length c) ∧ vs.length ≤ c ∧ c ≤ 9223372036854775807 ∧ (vs = [] ∨ ∃ g' off', a = some ⟨g', off', none⟩ ∧ D g' ∧ ShpsAt D m w g' off' vs)
def ShpsAt (D : Nat → Prop) (m : Nat) (w : World) (g off : Nat) : List Val → Prop
  | [] => True
  | v :: r => ShpAt D m w g off v ∧ ShpsAt D m w g (off + 8) r
end
def ShpU (D : Nat → Prop) (m : Nat) (w : World) (y : Value) (v : Val) : Prop :=
  ∃ u0 u1 u2 u3 u4 st uk a c, y = .agg #[u0, u1, u2, u3, u4, .string st, uk, .slice a v.kids.length c] ∧ st.size ≤ m ∧ ShpKs D m w uk v.keys.length ∧
    v.kids.length ≤ c ∧ c ≤ 9223372036854775807 ∧ (v.kids = [] ∨ ∃ g' off', a = some ⟨g', off', none⟩ ∧ D g' ∧ ShpsAt D m w g' off' v.kids)
theorem ShpsAt.at {D : Nat → Prop} {m : Nat} {w : World} {g : Nat} : ∀ {vs : List Val} {off : Nat}, ShpsAt D m w g off vs → ∀ {i : Nat} {v : Val}, vs[i]? = some v → ShpAt D m w g (off + i * 8) v
  | [], _, _, _, _, hi => by simp at hi
  | x :: r, off, h, 0, v, hi => by
    rw [ShpsAt] at h
    simp at hi
    subst hi
    simpa using h.1
  | x :: r, off, h, i + 1, v, hi => by
    rw [ShpsAt] at h
    have := ShpsAt.at h.2 (i := i) (v := v) (by simpa using hi)
    rwa [show off + (i + 1) * 8 = off + 8 + i * 8 by omega]
structure StrStep (D : Nat → Prop) (k : Nat) (w w' : World) : Prop where
  os : w'.os = w.os
  tape : w'.tape = w.tape
  output : w'.output = w.output
  size : w'.heap.size = w.heap.size
  block : ∀ g, ¬ D g → w'.heap[g]? = w.heap[g]?
  cell : ∀ g i, w'.cell? ⟨g, i, none⟩ = w.cell? ⟨g, i, none⟩ ∨ ∃ s t : ByteArray, w.cell? ⟨g, i, none⟩ = some (.string s) ∧ w'.cell? ⟨g, i, none⟩ = some (.string t) ∧ t.size ≤ s.size + k
  frozen : ∀ g i, w'.frozen? ⟨g, i, none⟩ = w.frozen? ⟨g, i, none⟩
theorem StrStep.refl (D : Nat → Prop) (w : World) : StrStep D 0 w w := ⟨rfl, rfl, rfl, rfl, fun _ _ => rfl, fun _ _ => .inl rfl, fun _ _ => rfl⟩
theorem StrStep.trans {D : Nat → Prop} {k l : Nat} {a b c : World} (h : StrStep D k a b) (i : StrStep D l b c) : StrStep D (k + l) a c := by
  refine ⟨i.os.trans h.os, i.tape.trans h.tape, i.output.trans h.output, i.size.trans h.size, fun g hg => (i.block g hg).trans (h.block g hg), fun g j => ?_, fun g j => (i.frozen g j).trans (h.frozen g j)⟩
  rcases h.cell g j with e | ⟨s, t, e1, e2, e3⟩
  · rcases i.cell g j with f | ⟨s', t', f1, f2, f3⟩
    · exact .inl (f.trans e)
    · exact .inr ⟨s', t', by rw [← e]; exact f1, f2, by omega⟩
  · rcases i.cell g j with f | ⟨s', t', f1, f2, f3⟩
    · exact .inr ⟨s, t, e1, by rw [f]; exact e2, by omega⟩
    · rw [f1] at e2
      injection e2 with e2
      injection e2 with e2
      exact .inr ⟨s, t', e1, f2, by rw [e2] at f3; omega⟩
theorem StrStep.mono {D : Nat → Prop} {k l : Nat} {a b : World} (h : StrStep D k a b) (hk : k ≤ l) : StrStep D l a b :=
  ⟨h.os, h.tape, h.output, h.size, h.block, fun g i => (h.cell g i).imp id fun ⟨s, t, e1, e2, e3⟩ => ⟨s, t, e1, e2, by omega⟩, h.frozen⟩
theorem StrStep.keep {D : Nat → Prop} {k : Nat} {a b : World} (h : StrStep D k a b) {g i : Nat} {v : Value} (hc : a.cell? ⟨g, i, none⟩ = some v) (hv : ∀ t, v ≠ .string t) : b.cell? ⟨g, i, none⟩ = some v := by
  rcases h.cell g i with e | ⟨s, t, e1, e2, e3⟩
  · rw [e]
    exact hc
  · rw [hc] at e1
    injection e1 with e1
    exact absurd e1 (hv s)
theorem StrStep.str {D : Nat → Prop} {k m : Nat} {a b : World} (h : StrStep D k a b) {g i : Nat} (hs : StrAt m a g i) : StrAt (m + k) b g i := by
  obtain ⟨t, h1, h2, h3⟩ := hs
  rcases h.cell g i with e | ⟨s, t', e1, e2, e3⟩
  · exact ⟨t, by rw [e]; exact h1, by omega, by rw [h.frozen]; exact h3⟩
  · rw [h1] at e1
    injection e1 with e1
    injection e1 with e1
    exact ⟨t', e2, by rw [← e1] at e3; omega, by rw [h.frozen]; exact h3⟩
theorem StrStep.ks {D : Nat → Prop} {k m : Nat} {a b : World} (h : StrStep D k a b) {u : Value} {n : Nat} (hs : ShpKs D m a u n) : ShpKs D (m + k) b u n := by
  obtain ⟨p, c, hu, h1, h2, h3⟩ := hs
  refine ⟨p, c, hu, h1, h2, h3.imp id ?_⟩
  rintro ⟨g, off, hp, hD, hx⟩
  exact ⟨g, off, hp, hD, fun i hi => h.str (hx i hi)⟩
theorem StrStep.one {D : Nat → Prop} {w : World} {g i : Nat} {s t : ByteArray} (hD : D g) (hc : w.cell? ⟨g, i, none⟩ = some (.string s)) (ht : t.size ≤ s.size + 1) : StrStep D 1 w (w.setCell ⟨g, i, none⟩ (.string t)) := by
  refine ⟨rfl, rfl, rfl, by simp [World.setCell], fun k hk => ?_, fun k j => ?_, fun k j => World.frozen?_setCell _ _ _ _⟩
  · show (w.heap.modify g _)[k]? = _
    rw [Array.getElem?_modify]
    have : g ≠ k := fun e => hk (e ▸ hD)
    simp [this]
  · by_cases e : (⟨g, i, none⟩ : Addr) = ⟨k, j, none⟩
    · rw [← e]
      exact .inr ⟨s, t, hc, World.cell?_setCell_same _ _ _ hc, ht⟩
    · exact .inl (World.cell?_setCell_other _ _ _ _ e)
theorem StrAt.keep {m : Nat} {w w' : World} {g i : Nat} (h : StrAt m w g i) (hk : w'.heap[g]? = w.heap[g]?) : StrAt m w' g i := by
  obtain ⟨t, h1, h2, h3⟩ := h
  refine ⟨t, ?_, h2, ?_⟩
  · rw [← h1]
    unfold World.cell?
    rw [hk]
  · rw [← h3]
    unfold World.frozen?
    rw [hk]
theorem cell_keep {w w' : World} {g i : Nat} {v : Value} (h : w.cell? ⟨g, i, none⟩ = some v) (hk : w'.heap[g]? = w.heap[g]?) : w'.cell? ⟨g, i, none⟩ = some v := by
  rw [← h]
  unfold World.cell?
  rw [hk]
theorem ShpKs.keep {D : Nat → Prop} {m : Nat} {w w' : World} {u : Value} {n : Nat} (h : ShpKs D m w u n) (hk : ∀ g, D g → w'.heap[g]? = w.heap[g]?) : ShpKs D m w' u n := by
  obtain ⟨a, c, hu, h1, h2, h3⟩ := h
  refine ⟨a, c, hu, h1, h2, h3.imp id ?_⟩
  rintro ⟨g, off, ha, hD, hx⟩
  exact ⟨g, off, ha, hD, fun i hi => (hx i hi).keep (hk g hD)⟩
mutual
theorem ShpAt.keep {D : Nat → Prop} {m : Nat} {w w' : World} (hk : ∀ g, D g → w'.heap[g]? = w.heap[g]?) : ∀ (v : Val) {g off : Nat}, D g → ShpAt D m w g off v → ShpAt D m w' g off v
  | ⟨_, _, _, _, ks, vs⟩, g, off, hg, h => by
    rw [ShpAt] at h ⊢
    obtain ⟨h5, ⟨u, h6, hks⟩, a, c, h7, hl1, hl2, hx⟩ := h
    refine ⟨h5.keep (hk g hg), ⟨u, cell_keep h6 (hk g hg), hks.keep hk⟩, a, c, cell_keep h7 (hk g hg), hl1, hl2, hx.imp id ?_⟩
    rintro ⟨g', off', ha, hD, hv⟩
    exact ⟨g', off', ha, hD, ShpsAt.keep hk vs hD hv⟩
theorem ShpsAt.keep {D : Nat → Prop} {m : Nat} {w w' : World} (hk : ∀ g, D g → w'.heap[g]? = w.heap[g]?) : ∀ (vs : List Val) {g off : Nat}, D g → ShpsAt D m w g off vs → ShpsAt D m w' g off vs
  | [], _, _, _, _ => by rw [ShpsAt]; trivial
  | v :: r, g, off, hg, h => by
    rw [ShpsAt] at h ⊢
    exact ⟨ShpAt.keep hk v hg h.1, ShpsAt.keep hk r hg h.2⟩
end
theorem ShpU.box {D : Nat → Prop} {m : Nat} {w w' : World} {u0 u1 u2 u3 u4 u5 u6 u7 : Value} {v : Val} (h : ShpU D m w (.agg #[u0, u1, u2, u3, u4, u5, u6, u7]) v) {g : Nat} {t : TypeId} (hb : w'.heap[g]? = some (.cells #[u0, u1, u2, u3, u4, u5, u6, u7] t (0, 0)))
    (hk : ∀ k, D k → w'.heap[k]? = w.heap[k]?) : ShpAt D m w' g 0 v := by
  obtain ⟨v0, v1, v2, v3, v4, st, uk, a, c, e, h1, h2, h3, h4, h5⟩ := h
  injection e with e
  injection e with e
  injection e with e0 e
  injection e with e1 e
  injection e with e2 e
  injection e with e3 e
  injection e with e4 e
  injection e with e5 e
  injection e with e6 e
  injection e with e7 e
  obtain ⟨_, _, _, _, ks, vs⟩ := v
  rw [ShpAt]
  refine ⟨⟨st, by rw [cell_of hb]; simp [e5], h1, free_of hb _⟩, ⟨uk, by rw [cell_of hb]; simp [e6], h2.keep hk⟩, a, c, by rw [cell_of hb]; simp [e7, Val.kids], h3, h4, h5.imp id ?_⟩
  rintro ⟨g', off', ha, hD, hv⟩
  exact ⟨g', off', ha, hD, ShpsAt.keep hk vs hD hv⟩
end Go.Proofs.YtlfbnfphocpgeaaGreatDoor.Tre
namespace Go.Proofs.YtlfbnfphocpgeaaGreatDoor.Tre
open Go.RowKit Kit Txt
open Num (Dec zero)
def Spots (B : Nat) (w : World) (css : List (List Value)) (l : List (Nat × Val)) : Prop :=
  css.length = l.length ∧ ∀ (i : Nat) (c : List Value) (x : Nat × Val), css[i]? = some c → l[i]? = some x → ∃ cs, c = .int .i64 (x.1 : Int) :: cs ∧ HoldP (· < B) w cs x.2
theorem Spots.keep {B : Nat} {w w' : World} {a : List (List Value)} {l : List (Nat × Val)} (h : Spots B w a l) (hz : w.heap.size ≤ w'.heap.size) (hk : ∀ g, g < B → g < w.heap.size → w'.heap[g]? = w.heap[g]?) : Spots B w' a l := by
  refine ⟨h.1, fun i c x h1 h2 => ?_⟩
  obtain ⟨cs, e, hc⟩ := h.2 i c x h1 h2
  exact ⟨cs, e, HoldP.keep hz hk _ hc⟩
theorem Spots.append {B : Nat} {w : World} {a b : List (List Value)} {l m : List (Nat × Val)} (h : Spots B w a l) (k : Spots B w b m) : Spots B w (a ++ b) (l ++ m) := by
  refine ⟨by rw [List.length_append, List.length_append, h.1, k.1], fun i c x h1 h2 => ?_⟩
  by_cases hi : i < a.length
  · rw [List.getElem?_append_left hi] at h1
    rw [List.getElem?_append_left (by rw [← h.1]; exact hi)] at h2
    exact h.2 i c x h1 h2
  · rw [List.getElem?_append_right (by omega)] at h1
    rw [List.getElem?_append_right (by rw [← h.1]; omega), ← h.1] at h2
    exact k.2 _ c x h1 h2
theorem Spots.sizes {B : Nat} {w : World} {css : List (List Value)} {l : List (Nat × Val)} (h : Spots B w css l) : (∀ c ∈ css, c.length = 9) ∧ ∀ c ∈ css, ∀ u ∈ c, u.oneCell' = true := by
  have hh : ∀ c ∈ css, ∃ (d : Int) (cs : List Value) (v : Val), c = .int .i64 d :: cs ∧ HoldP (· < B) w cs v := fun c hc => by
    obtain ⟨i, hi, e⟩ := List.mem_iff_getElem.1 hc
    obtain ⟨cs, h1, h2⟩ := h.2 i c (l[i]'(by rw [← h.1]; exact hi)) (by rw [List.getElem?_eq_getElem hi, e]) (List.getElem?_eq_getElem _)
    exact ⟨_, cs, _, h1, h2⟩
  constructor
  · intro c hc
    obtain ⟨d, cs, v, rfl, h2⟩ := hh c hc
    rw [List.length_cons, holdP_len h2]
  · intro c hc u hu
    obtain ⟨d, cs, v, rfl, h2⟩ := hh c hc
    rcases List.mem_cons.1 hu with rfl | hu
    · rfl
    · exact holdP_one h2 u hu
theorem walks_snoc (d : Nat) : ∀ (a : List Val) (v : Val), walks d (a ++ [v]) = walks d a ++ walk d v
  | [], v => by simp [walks]
  | x :: a, v => by rw [List.cons_append, walks, walks, walks_snoc d a v, List.append_assoc]
theorem HoldsP.at {X : Nat → Prop} {w : World} {g : Nat} : ∀ {vs : List Val} {off : Nat}, HoldsP X w g off vs → ∀ {i : Nat} {v : Val}, vs[i]? = some v → ∃ cs, At8 w g (off + i * 8) cs ∧ HoldP X w cs v
  | [], _, _, _, _, hi => by simp at hi
  | x :: r, off, h, 0, v, hi => by
    rw [HoldsP] at h
    simp at hi
    subst hi
    simpa using h.1
  | x :: r, off, h, i + 1, v, hi => by
    rw [HoldsP] at h
    have := HoldsP.at h.2 (i := i) (v := v) (by simpa using hi)
    rwa [show off + (i + 1) * 8 = off + 8 + i * 8 by omega]
theorem take_snoc {vs : List Val} {j : Nat} (h : j < vs.length) (d : Nat) : walks d (vs.take (j + 1)) = walks d (vs.take j) ++ walk d vs[j] := by
  rw [List.take_succ_eq_append_getElem h, walks_snoc]
def HoldU (B : Nat) (w : World) (u : Value) (v : Val) : Prop := ∃ cs : List Value, u = .agg cs.toArray ∧ HoldP (· < B) w cs v
theorem HoldU.of {w : World} {u : Value} {v : Val} (h : HoldV w u v) : HoldU w.heap.size w u v := by
  obtain ⟨cs, hu, hc⟩ := h
  exact ⟨cs, hu, HoldP.mono (fun g _ hlt => hlt) v (HoldP.of v hc)⟩
end Go.Proofs.YtlfbnfphocpgeaaGreatDoor.Tre
namespace Go.Proofs.YtlfbnfphocpgeaaGreatDoor.Tre
open Go.RowKit Kit Txt
open Num (Dec zero)
def EW (v : Val) (pre : List (Nat × Value)) (x : Nat × Value) (W : World) : Prop := ∃ y, (walk 0 v)[pre.length]? = some (x.1, y) ∧ HoldV W x.2 y
def KeptT (n₀ lo : Nat) (A B : World) : Prop := Below n₀ A B ∧ ∀ (k : Nat) (o : Obj), lo ≤ k → A.heap[k]? = some o → o.isCells = true → B.heap[k]? = some o
theorem KeptT.refl (n₀ lo : Nat) (A : World) : KeptT n₀ lo A A := ⟨Below.refl _ _, fun _ _ _ h _ => h⟩
theorem KeptT.trans {n₀ lo : Nat} {A B C : World} (h : KeptT n₀ lo A B) (k : KeptT n₀ lo B C) : KeptT n₀ lo A C := ⟨h.1.trans k.1, fun j o h1 h2 h3 => k.2 j o h1 (h.2 j o h1 h2 h3) h3⟩
theorem KeptT.of_below {n₀ lo : Nat} {A B : World} (h : Below A.heap.size A B) (hn : n₀ ≤ A.heap.size) : KeptT n₀ lo A B := ⟨h.mono hn, fun _ _ _ h2 _ => (h.block _ (Array.getElem?_eq_some_iff.1 h2).1).trans h2⟩
theorem Ks.cells {w w' : World} {u : Value} {ls : List (List UInt8)} (h : Ks w u ls) (hz : w.heap.size ≤ w'.heap.size) (hk : ∀ g i x, w.cell? ⟨g, i, none⟩ = some x → w'.cell? ⟨g, i, none⟩ = some x) : Ks w' u ls := by
  obtain ⟨a, c, hu, h1, h2, h3⟩ := h
  refine ⟨a, c, hu, h1, h2, h3.imp id ?_⟩
  rintro ⟨g, off, ha, hg, hx⟩
  exact ⟨g, off, ha, Nat.lt_of_lt_of_le hg hz, fun i l hi => hk _ _ _ (hx i l hi)⟩
mutual
theorem Hold.cells {w w' : World} (hz : w.heap.size ≤ w'.heap.size) (hk : ∀ g i x, w.cell? ⟨g, i, none⟩ = some x → w'.cell? ⟨g, i, none⟩ = some x) : ∀ (v : Val) {cs : List Value}, Hold w cs v → Hold w' cs v
  | ⟨k, i, n, s, ks, vs⟩, cs, h => by
    rw [Hold] at h ⊢
    obtain ⟨uk, a, c, hcs, hks, hc, hm, h⟩ := h
    refine ⟨uk, a, c, hcs, hks.cells hz hk, hc, hm, h.imp id ?_⟩
    rintro ⟨g, off, ha, hg, hx⟩
    exact ⟨g, off, ha, Nat.lt_of_lt_of_le hg hz, Holds.cells hz hk vs hx⟩
theorem Holds.cells {w w' : World} (hz : w.heap.size ≤ w'.heap.size) (hk : ∀ g i x, w.cell? ⟨g, i, none⟩ = some x → w'.cell? ⟨g, i, none⟩ = some x) : ∀ (vs : List Val) {g off : Nat}, Holds w g off vs → Holds w' g off vs
  | [], _, _, _ => by rw [Holds]; trivial
  | v :: r, g, off, h => by
    rw [Holds] at h ⊢
    obtain ⟨⟨cs, h8, hv⟩, hr⟩ := h
    refine ⟨⟨cs, ⟨h8.1, fun j hj => ?_⟩, Hold.cells hz hk v hv⟩, Holds.cells hz hk r hr⟩
    have hj' : j < cs.length := by rw [h8.1]; exact hj
    rw [List.getElem?_eq_getElem hj']
    exact hk _ _ _ ((h8.2 j hj).trans (List.getElem?_eq_getElem hj'))
end
theorem put_cells {W : World} {l : Nat} {o o' : Obj} (hl : W.heap[l]? = some o) (ho : o.isCells = false) (g i : Nat) (x : Value) (h : W.cell? ⟨g, i, none⟩ = some x) : (W.putObj l o').cell? ⟨g, i, none⟩ = some x := by
  have hne : g ≠ l := fun e => by
    subst e
    unfold World.cell? at h
    rw [hl] at h
    cases o <;> simp_all [Obj.isCells]
  exact cell_keep h (World.putObj_heap_other hne)
theorem EW.put {v : Val} {pre : List (Nat × Value)} {x : Nat × Value} {W : World} {l : Nat} {o o' : Obj} (hl : W.heap[l]? = some o) (ho : o.isCells = false) (h : EW v pre x W) : EW v pre x (W.putObj l o') := by
  obtain ⟨y, hy, hx⟩ := h
  obtain ⟨cs, hu, hc⟩ := hx
  exact ⟨y, hy, cs, hu, Hold.cells (by simp) (put_cells hl ho) y hc⟩
end Go.Proofs.YtlfbnfphocpgeaaGreatDoor.Tre
