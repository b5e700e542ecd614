/- A part of what is_holds leans on (its texts, put together). Nothing is claimed here. -/
import Derived.Deep.AppendLies
import Derived.Shelf.Abstract
import Derived.OwnWalk
import Derived.Test.YtlfbnfphocpgeaaGreatDoorIs3
namespace Go.Proofs.YtlfbnfphocpgeaaGreatDoor.Tre
open Go.RowKit Kit Txt
open Num (Dec zero)
def KsP (X : Nat → Prop) (w : World) (u : Value) (ls : List (List UInt8)) : Prop :=
 ∃ a c, u = .slice a ls.length c ∧ ls.length ≤ c ∧ c ≤ 9223372036854775807 ∧ (ls = [] ∨ ∃ g off, a = some ⟨g, off, none⟩ ∧ X g ∧ g < w.heap.size ∧ ∀ (i : Nat) (l : List UInt8), ls[i]? = some l → w.cell? ⟨g, off + i, none⟩ = some (.string (txt l)))
theorem KsP.ks {X : Nat → Prop} {w : World} {u : Value} {ls : List (List UInt8)} (h : KsP X w u ls) : Ks w u ls := by
 obtain ⟨a, c, rfl, hc, hm, h⟩ := h
 exact ⟨a, c, rfl, hc, hm, h.imp id fun ⟨g, off, h1, _, h2⟩ => ⟨g, off, h1, h2⟩⟩
theorem KsP.of {w : World} {u : Value} {ls : List (List UInt8)} (h : Ks w u ls) : KsP (fun _ => True) w u ls := by
 obtain ⟨a, c, rfl, hc, hm, h⟩ := h
 exact ⟨a, c, rfl, hc, hm, h.imp id fun ⟨g, off, h1, h2⟩ => ⟨g, off, h1, trivial, h2⟩⟩
theorem KsP.mono {X Y : Nat → Prop} {w : World} {u : Value} {ls : List (List UInt8)} (h : KsP X w u ls) (hXY : ∀ g, X g → g < w.heap.size → Y g) : KsP Y w u ls := by
 obtain ⟨a, c, rfl, hc, hm, h⟩ := h
 exact ⟨a, c, rfl, hc, hm, h.imp id fun ⟨g, off, h1, h2, h3, h4⟩ => ⟨g, off, h1, hXY g h2 h3, h3, h4⟩⟩
theorem KsP.keep {X : Nat → Prop} {w w' : World} {u : Value} {ls : List (List UInt8)} (h : KsP X w u ls) (hz : w.heap.size ≤ w'.heap.size) (hk : ∀ g, X g → g < w.heap.size → w'.heap[g]? = w.heap[g]?) : KsP X w' u ls := by
 obtain ⟨a, c, rfl, hc, hm, h⟩ := h
 refine ⟨a, c, rfl, hc, hm, h.imp id fun ⟨g, off, h1, h2, h3, h4⟩ => ⟨g, off, h1, h2, Nat.lt_of_lt_of_le h3 hz, fun i l hi => ?_⟩⟩
 rw [← h4 i l hi]
 unfold World.cell?
 rw [hk g h2 h3]
mutual
def HoldP (X : Nat → Prop) (w : World) (cs : List Value) : Val → Prop
 | ⟨k, i, n, s, ks, vs⟩ => ∃ uk a c, cs = cellsV k i n s uk (.slice a vs.length c) ∧ KsP X w uk ks ∧ vs.length ≤ c ∧ c ≤ 9223372036854775807 ∧ (vs = [] ∨ ∃ g off, a = some ⟨g, off, none⟩ ∧ X g ∧ g < w.heap.size ∧ HoldsP X w g off vs)
def HoldsP (X : Nat → Prop) (w : World) (g off : Nat) : List Val → Prop
 | [] => True
 | v :: r => (∃ cs, At8 w g off cs ∧ HoldP X w cs v) ∧ HoldsP X w g (off + 8) r
end
theorem at8_keep {w w' : World} {g off : Nat} {cs : List Value} (h : At8 w g off cs) (hk : w'.heap[g]? = w.heap[g]?) : At8 w' g off cs :=
 ⟨h.1, fun j hj => by
   rw [← h.2 j hj]
   unfold World.cell?
   rw [hk]⟩
mutual
theorem HoldP.hold {X : Nat → Prop} {w : World} : ∀ (v : Val) {cs : List Value}, HoldP X w cs v → Hold w cs v
 | ⟨k, i, n, s, ks, vs⟩, cs, h => by
   rw [HoldP] at h
   rw [Hold]
   obtain ⟨uk, a, c, hcs, hk, hc, hm, h⟩ := h
   refine ⟨uk, a, c, hcs, hk.ks, hc, hm, ?_⟩
   rcases h with h | ⟨g, off, ha, _, hg, hx⟩
   · exact .inl h
   · exact .inr ⟨g, off, ha, hg, HoldsP.holds vs hx⟩
theorem HoldsP.holds {X : Nat → Prop} {w : World} : ∀ (vs : List Val) {g off : Nat}, HoldsP X w g off vs → Holds w g off vs
 | [], _, _, _ => by rw [Holds]; trivial
 | v :: r, g, off, h => by
   rw [HoldsP] at h
   rw [Holds]
   obtain ⟨⟨cs, h8, hv⟩, hr⟩ := h
   exact ⟨⟨cs, h8, HoldP.hold v hv⟩, HoldsP.holds r hr⟩
end
mutual
theorem HoldP.of {w : World} : ∀ (v : Val) {cs : List Value}, Hold w cs v → HoldP (fun _ => True) w cs v
 | ⟨k, i, n, s, ks, vs⟩, cs, h => by
   rw [Hold] at h
   rw [HoldP]
   obtain ⟨uk, a, c, hcs, hk, hc, hm, h⟩ := h
   refine ⟨uk, a, c, hcs, .of hk, hc, hm, ?_⟩
   rcases h with h | ⟨g, off, ha, hg, hx⟩
   · exact .inl h
   · exact .inr ⟨g, off, ha, trivial, hg, HoldsP.of vs hx⟩
theorem HoldsP.of {w : World} : ∀ (vs : List Val) {g off : Nat}, Holds w g off vs → HoldsP (fun _ => True) w g off vs
 | [], _, _, _ => by rw [HoldsP]; trivial
 | v :: r, g, off, h => by
   rw [Holds] at h
   rw [HoldsP]
   obtain ⟨⟨cs, h8, hv⟩, hr⟩ := h
   exact ⟨⟨cs, h8, HoldP.of v hv⟩, HoldsP.of r hr⟩
end
mutual
theorem HoldP.mono {X Y : Nat → Prop} {w : World} (hXY : ∀ g, X g → g < w.heap.size → Y g) : ∀ (v : Val) {cs : List Value}, HoldP X w cs v → HoldP Y w cs v
 | ⟨k, i, n, s, ks, vs⟩, cs, h => by
   rw [HoldP] at h ⊢
   obtain ⟨uk, a, c, hcs, hk, hc, hm, h⟩ := h
   refine ⟨uk, a, c, hcs, hk.mono hXY, hc, hm, ?_⟩
   rcases h with h | ⟨g, off, ha, hX, hg, hx⟩
   · exact .inl h
   · exact .inr ⟨g, off, ha, hXY g hX hg, hg, HoldsP.mono hXY vs hx⟩
theorem HoldsP.mono {X Y : Nat → Prop} {w : World} (hXY : ∀ g, X g → g < w.heap.size → Y g) : ∀ (vs : List Val) {g off : Nat}, HoldsP X w g off vs → HoldsP Y w g off vs
 | [], _, _, _ => by rw [HoldsP]; trivial
 | v :: r, g, off, h => by
   rw [HoldsP] at h ⊢
   obtain ⟨⟨cs, h8, hv⟩, hr⟩ := h
   exact ⟨⟨cs, h8, HoldP.mono hXY v hv⟩, HoldsP.mono hXY r hr⟩
end
mutual
theorem HoldP.keep {X : Nat → Prop} {w w' : World} (hz : w.heap.size ≤ w'.heap.size) (hk : ∀ g, X g → g < w.heap.size → w'.heap[g]? = w.heap[g]?) : ∀ (v : Val) {cs : List Value}, HoldP X w cs v → HoldP X w' cs v
 | ⟨k, i, n, s, ks, vs⟩, cs, h => by
   rw [HoldP] at h ⊢
   obtain ⟨uk, a, c, hcs, hks, hc, hm, h⟩ := h
   refine ⟨uk, a, c, hcs, hks.keep hz hk, hc, hm, ?_⟩
   rcases h with h | ⟨g, off, ha, hX, hg, hx⟩
   · exact .inl h
   · exact .inr ⟨g, off, ha, hX, Nat.lt_of_lt_of_le hg hz, HoldsP.keep hz hk vs hX hg hx⟩
theorem HoldsP.keep {X : Nat → Prop} {w w' : World} (hz : w.heap.size ≤ w'.heap.size) (hk : ∀ g, X g → g < w.heap.size → w'.heap[g]? = w.heap[g]?) : ∀ (vs : List Val) {g off : Nat}, X g → g < w.heap.size → HoldsP X w g off vs → HoldsP X w' g off vs
 | [], _, _, _, _, _ => by rw [HoldsP]; trivial
 | v :: r, g, off, hX, hg, h => by
   rw [HoldsP] at h ⊢
   obtain ⟨⟨cs, h8, hv⟩, hr⟩ := h
   exact ⟨⟨cs, at8_keep h8 (hk g hX hg), HoldP.keep hz hk v hv⟩, HoldsP.keep hz hk r hX hg hr⟩
end
def HoldF (B : Nat) (w : World) (u : Value) (v : Val) : Prop := ∃ cs : List Value, u = .agg cs.toArray ∧ HoldP (B ≤ ·) w cs v
theorem HoldF.hold {B : Nat} {w : World} {u : Value} {v : Val} (h : HoldF B w u v) : HoldV w u v := by
 obtain ⟨cs, hu, hc⟩ := h
 exact ⟨cs, hu, HoldP.hold v hc⟩
theorem HoldF.below {B : Nat} {w w' : World} {u : Value} {v : Val} (h : HoldF B w u v) (b : Below w.heap.size w w') : HoldF B w' u v := by
 obtain ⟨cs, hu, hc⟩ := h
 exact ⟨cs, hu, HoldP.keep b.size (fun g _ hg => b.block g hg) v hc⟩
theorem holdP_len {X : Nat → Prop} {w : World} {cs : List Value} {v : Val} (h : HoldP X w cs v) : cs.length = 8 := by
 obtain ⟨k, i, n, s, ks, vs⟩ := v
 rw [HoldP] at h
 obtain ⟨uk, a, c, rfl, _⟩ := h
 rfl
theorem holdsP_of {X : Nat → Prop} {w : World} {g : Nat} : ∀ {vs : List Val} {off : Nat}, (∀ (i : Nat) (v : Val), vs[i]? = some v → ∃ cs, At8 w g (off + i * 8) cs ∧ HoldP X w cs v) → HoldsP X w g off vs
 | [], _, _ => by rw [HoldsP]; trivial
 | x :: r, off, h => by
   rw [HoldsP]
   refine ⟨by simpa using h 0 x rfl, holdsP_of fun i v hv => ?_⟩
   have := h (i + 1) v (by simpa using hv)
   rwa [show off + (i + 1) * 8 = off + 8 + i * 8 by omega] at this
def RowC (N : Option Nat) (B : Nat) (w : World) (u : Value) (vs : List Val) (cs : List (List Value)) : Prop :=
 cs.length = vs.length ∧ w.ownsRow B 29 8 u vs.length cs.flatten ∧ ∀ (i : Nat) (c : List Value) (v : Val), cs[i]? = some c → vs[i]? = some v → HoldP (fun g => B ≤ g ∧ u.ownBlock ≠ some g ∧ N ≠ some g) w c v
theorem RowC.nil (N : Option Nat) (B : Nat) (w : World) : RowC N B w (.slice none 0 0) [] [] := ⟨rfl, World.ownsRow_nil _ _ _ _, fun i c v h => by simp at h⟩
theorem RowC.below {N : Option Nat} {B : Nat} {w w' : World} {u : Value} {vs : List Val} {cs : List (List Value)} (h : RowC N B w u vs cs) (b : Below w.heap.size w w') : RowC N B w' u vs cs := by
 obtain ⟨hl, hown, hh⟩ := h
 refine ⟨hl, hown.kept (row := none) ⟨b.os, b.tape, b.output, b.size, fun k hk _ => b.block k hk⟩ ?_, fun i c v h1 h2 => HoldP.keep b.size (fun g _ hg => b.block g hg) v (hh i c v h1 h2)⟩
 cases u.ownBlock with
 | none => exact .inl rfl
 | some g => exact .inr (by simp)
theorem RowC.other {N : Option Nat} {B r : Nat} {w w' : World} {u : Value} {vs : List Val} {cs : List (List Value)} (h : RowC N B w u vs cs) (b : w.grownBy w' (some r)) (hr : r < B) : RowC N B w' u vs cs := by
 obtain ⟨hl, hown, hh⟩ := h
 refine ⟨hl, hown.kept b ?_, fun i c v h1 h2 => HoldP.keep b.size (fun g hg hlt => b.block g hlt (fun e => by cases e; omega)) v (hh i c v h1 h2)⟩
 rcases hown.2 with ⟨rfl, _⟩ | ⟨g, cap, cur, rfl, hg, _⟩
 · exact .inl rfl
 · refine .inr fun e => ?_
   have e' : g = r := by simpa [Value.ownBlock] using e
   omega
theorem RowC.renew {N N' : Option Nat} {B : Nat} {w w' : World} {u : Value} {vs : List Val} {cs : List (List Value)} (h : RowC N B w u vs cs) (b : w.grownBy w' N) (hu : ∀ g, u.ownBlock = some g → N ≠ some g) (hN : ∀ g, N' = some g → N = some g ∨ g = w.heap.size) : RowC N' B w' u vs cs := by
 obtain ⟨hl, hown, hh⟩ := h
 refine ⟨hl, hown.kept b ?_, fun i c v h1 h2 => ?_⟩
 · cases e : u.ownBlock with
   | none => exact .inl rfl
   | some g => exact .inr (fun h => hu g e h.symm)
 · have h3 := HoldP.mono (Y := fun g => B ≤ g ∧ u.ownBlock ≠ some g ∧ N ≠ some g ∧ N' ≠ some g) (fun g hX hlt => ⟨hX.1, hX.2.1, hX.2.2, fun e => by
     rcases hN g e with e2 | e2
     · exact hX.2.2 e2
     · omega⟩) v (hh i c v h1 h2)
   exact HoldP.mono (fun g hX _ => ⟨hX.1, hX.2.1, hX.2.2.2⟩) v (HoldP.keep b.size (fun g hX hlt => b.block g hlt (fun e => hX.2.2.1 e.symm)) v h3)
theorem RowC.own_lt {N : Option Nat} {B : Nat} {w : World} {u : Value} {vs : List Val} {cs : List (List Value)} (h : RowC N B w u vs cs) : ∀ g, u.ownBlock = some g → B ≤ g ∧ g < w.heap.size := by
 obtain ⟨hl, hown, _⟩ := h
 intro g hg
 rcases hown.2 with ⟨rfl, _⟩ | ⟨g', cap, cur, rfl, hg', hb, _⟩
 · cases hg
 · have e : g' = g := by simpa [Value.ownBlock] using hg
   subst e
   exact ⟨hg', lt_of_heap hb⟩
theorem RowC.push {N : Option Nat} {B S : Nat} {w w' : World} {u u' : Value} {vs : List Val} {v : Val} {c : List Value} {cs : List (List Value)} {g' : Nat} (h : RowC N B w u vs cs) (hv : HoldP (S ≤ ·) w c v) (hB : B ≤ S) (hS : ∀ g, u.ownBlock = some g → g < S) (hN : ∀ g, N = some g → g < S)
   (hown : w'.ownsRow B 29 8 u' (vs.length + 1) (cs.flatten ++ c)) (hg : w.grownBy w' u.ownBlock) (hu : u'.ownBlock = some g') (hg' : u.ownBlock = some g' ∨ g' = w.heap.size) : RowC N B w' u' (vs ++ [v]) (cs ++ [c]) := by
 obtain ⟨hl, _, hh⟩ := h
 have fin : ∀ {c3 : List Value} {v3 : Val}, HoldP (fun g => B ≤ g ∧ u.ownBlock ≠ some g ∧ u'.ownBlock ≠ some g ∧ N ≠ some g) w c3 v3 → HoldP (fun g => B ≤ g ∧ u'.ownBlock ≠ some g ∧ N ≠ some g) w' c3 v3 := fun {c3 v3} hc =>
   HoldP.mono (fun g h _ => ⟨h.1, h.2.2.1, h.2.2.2⟩) v3 (HoldP.keep hg.size (fun g hX hlt => hg.block g hlt (fun e => hX.2.1 e.symm)) v3 hc)
 have hne : ∀ g, u.ownBlock ≠ some g → g < w.heap.size → u'.ownBlock ≠ some g := fun g h1 h2 e => by
   rw [hu] at e
   cases e
   rcases hg' with e | e
   · exact h1 e
   · omega
 refine ⟨by simp [hl], by simpa using hown, fun i c2 v2 h1 h2 => ?_⟩
 by_cases hi : i < cs.length
 · rw [List.getElem?_append_left hi] at h1
   rw [List.getElem?_append_left (by omega)] at h2
   exact fin (HoldP.mono (fun g hX hlt => ⟨hX.1, hX.2.1, hne g hX.2.1 hlt, hX.2.2⟩) v2 (hh i c2 v2 h1 h2))
 · have hi' : i = cs.length := by
     have := (List.getElem?_eq_some_iff.1 h1).1
     simp at this
     omega
   subst hi'
   rw [List.getElem?_append_right (Nat.le_refl _)] at h1
   rw [List.getElem?_append_right (by omega)] at h2
   rw [Nat.sub_self] at h1
   rw [show cs.length - vs.length = 0 by omega] at h2
   simp at h1 h2
   subst h1; subst h2
   have own : ∀ g, S ≤ g → u.ownBlock ≠ some g := fun g h e => by have := hS g e; omega
   exact fin (HoldP.mono (fun g hX hlt => ⟨Nat.le_trans hB hX, own g hX, hne g (own g hX) hlt, fun e => by have : S ≤ g := hX; have := hN g e; omega⟩) v hv)
theorem flatten_at {α : Type} : ∀ {cs : List (List α)} {i j : Nat} {c : List α}, (∀ x ∈ cs, x.length = 8) → cs[i]? = some c → j < 8 → cs.flatten[i * 8 + j]? = c[j]?
 | [], _, _, _, _, h, _ => by simp at h
 | x :: r, 0, j, c, hl, h, hj => by
   simp at h
   subst h
   rw [List.flatten_cons, List.getElem?_append_left (by rw [hl x (by simp)]; omega)]
   simp
 | x :: r, i + 1, j, c, hl, h, hj => by
   have ih := flatten_at (cs := r) (i := i) (j := j) (c := c) (fun y hy => hl y (by simp [hy])) (by simpa using h) hj
   have hx := hl x (by simp)
   rw [List.flatten_cons, List.getElem?_append_right (by omega), ← ih]
   congr 1
   omega
theorem RowC.holds {N : Option Nat} {B : Nat} {w : World} {u : Value} {vs : List Val} {cs : List (List Value)} (h : RowC N B w u vs cs) : ∃ a c, u = .slice a vs.length c ∧ vs.length ≤ c ∧ c ≤ 9223372036854775807 ∧ (vs = [] ∨ ∃ g off, a = some ⟨g, off, none⟩ ∧ B ≤ g ∧ g < w.heap.size ∧ HoldsP (B ≤ ·) w g off vs) := by
 obtain ⟨hl, hown, hh⟩ := h
 have h8 : ∀ x ∈ cs, x.length = 8 := fun x hx => by
   obtain ⟨i, hi, e⟩ := List.mem_iff_getElem.1 hx
   exact holdP_len (hh i x (vs[i]'(by omega)) (by rw [List.getElem?_eq_getElem hi, e]) (List.getElem?_eq_getElem (by omega)))
 rcases hown.2 with ⟨rfl, h0⟩ | ⟨g, cap, cur, rfl, hg, hb, hcap, hmax, hsz, htk⟩
 · have e0 : vs = [] := List.length_eq_zero_iff.1 h0
   subst e0
   exact ⟨none, 0, rfl, Nat.le_refl _, by omega, .inl rfl⟩
 · have hmx : cap ≤ 9223372036854775807 := by
     have := hmax
     unfold maxLen at this
     omega
   refine ⟨some ⟨g, 0, none⟩, cap, rfl, hcap, hmx, .inr ⟨g, 0, rfl, hg, lt_of_heap hb, holdsP_of fun i v hi => ?_⟩⟩
   have hil : i < vs.length := (List.getElem?_eq_some_iff.1 hi).1
   have hic : i < cs.length := by omega
   have hci : cs[i]? = some cs[i] := List.getElem?_eq_getElem hic
   have hP := hh i cs[i] v hci hi
   refine ⟨cs[i], ⟨holdP_len hP, fun j hj => ?_⟩, HoldP.mono (fun g h _ => h.1) v hP⟩
   have hfl := flatten_at h8 hci hj
   rw [← htk, List.getElem?_take, if_pos (by omega)] at hfl
   rw [cell_of hb, ← hfl, Nat.zero_add, ← Array.getElem?_toList]
def RowT (B : Nat) (w : World) (u : Value) (ls : List (List UInt8)) : Prop := w.ownsRow B 9 1 u ls.length (ls.map fun l => .string (txt l))
theorem RowT.holds {B : Nat} {w : World} {u : Value} {ls : List (List UInt8)} (h : RowT B w u ls) : KsP (B ≤ ·) w u ls := by
 rcases h.2 with ⟨rfl, h0⟩ | ⟨g, cap, cur, rfl, hg, hb, hcap, hmax, hsz, htk⟩
 · have e0 : ls = [] := List.length_eq_zero_iff.1 h0
   subst e0
   exact ⟨none, 0, rfl, Nat.le_refl _, by omega, .inl rfl⟩
 · have hmx : cap ≤ 9223372036854775807 := by
     have := hmax
     unfold maxLen at this
     omega
   refine ⟨some ⟨g, 0, none⟩, cap, rfl, hcap, hmx, .inr ⟨g, 0, rfl, hg, lt_of_heap hb, fun i l hi => ?_⟩⟩
   have hil : i < ls.length := (List.getElem?_eq_some_iff.1 hi).1
   have hm : (ls.map fun l => Value.string (txt l))[i]? = some (.string (txt l)) := by rw [List.getElem?_map, hi]; rfl
   rw [← htk, List.getElem?_take, if_pos (by omega)] at hm
   rw [cell_of hb, Nat.zero_add, ← hm, ← Array.getElem?_toList]
end Go.Proofs.YtlfbnfphocpgeaaGreatDoor.Tre
namespace Go.Proofs.YtlfbnfphocpgeaaGreatDoor.Tre
open Go.RowKit Kit Txt
open Num (Dec zero)
def zeroV : Value := .agg #[.int .i64 0, .bool false, .bool false, .string ⟨#[]⟩, .int .i64 0, .string ⟨#[]⟩, .slice none 0 0, .slice none 0 0]
theorem infoValue : (Tryz.prog.info? 29).map (fun i => (i.zero, i.size, i.bytes)) = some (some zeroV, 8, 112) := by kernel_rfl
theorem infoText : (Tryz.prog.info? 9).map (fun i => (i.zero, i.size, i.bytes)) = some (some (.string ⟨#[]⟩), 1, 16) := by kernel_rfl
theorem holdP_one {X : Nat → Prop} {w : World} {c : List Value} {v : Val} (h : HoldP X w c v) : ∀ u ∈ c, u.oneCell' = true := by
 obtain ⟨k, i, n, s, ks, vs⟩ := v
 rw [HoldP] at h
 obtain ⟨uk, a, cp, rfl, ⟨pk, ck, rfl, _⟩, _⟩ := h
 intro u hu
 simp only [cellsV, List.mem_cons, List.not_mem_nil, or_false] at hu
 rcases hu with rfl | rfl | rfl | rfl | rfl | rfl | rfl | rfl <;> rfl
theorem addr_at (N j : Nat) : (⟨N, 0, none⟩ : Addr).add j = ⟨N, j, none⟩ := by unfold Addr.add; split <;> simp_all
theorem step_push {ops : Array Oper} {o : Oper} {a : Act} {w : World} {K : Act → World → Prop} {Q : Exit → Act → World → Prop} {E : Prop} (hgd : o.guard = none) (s x : Operand)
   (ho : o.op = .call { callee := .builtin .append, args := #[s, x], argTypes := #[27, 27] }) {M : Option Nat} (B S : Nat) {u : Value} {vs : List Val} {cs : List (List Value)} {v : Val} {c : List Value} {N cap m : Nat} (hm : vs.length = m) (hs : a.eval s = u) (hx : a.eval x = .slice (some ⟨N, 0, none⟩) 1 cap)
   (hN : ∀ j, j < 8 → w.cell? ⟨N, j, none⟩ = c[j]?) (h : RowC M B w u vs cs) (hv : HoldP (S ≤ ·) w c v) (hB : B ≤ S) (hS : ∀ g, u.ownBlock = some g → g < S) (hM : ∀ g, M = some g → g < S) (hn : m < 1000000) (hbw : B ≤ w.heap.size)
   (hK : ∀ g cap' w', RowC M B w' (.slice (some ⟨g, 0, none⟩) (m + 1) cap') (vs ++ [v]) (cs ++ [c]) → w.grownBy w' u.ownBlock → K (a.put o.dst (.slice (some ⟨g, 0, none⟩) (m + 1) cap')) w') :
   if Region.wanted o (yielded ops a.tmps) = true then Oper.wp Tryz.prog o a w K Q else E := by
 subst hm
 obtain ⟨i0, hi, hz0, hz1, hz2⟩ := info_parts infoValue
 have hc8 := holdP_len hv
 refine step_append_lies w hgd s x 27 ho B 29 i0 zeroV 8 112 Tryz.underlying27 hi hz0 hz1 hz2 rfl (by decide) u vs.length cs.flatten hs h.2.1 ⟨N, 0, none⟩ 1 cap c hx (by omega) ?_ (holdP_one hv) (by decide) (by unfold maxLen; omega) (by omega) hbw w.heap.size rfl ?_
 · intro j y hy
   rw [addr_at, hN j (by have := (List.getElem?_eq_some_iff.1 hy).1; omega), hy]
 · intro g cap' w' h2 h3 h4 _
   exact hK g cap' w' (h.push hv hB hS hM h2 h3 rfl h4) h3
theorem wp_push {ops : Array Oper} {rest : List Oper} {o : Oper} {a : Act} {w : World} {Q : Exit → Act → World → Prop} (hgd : o.guard = none) (s x : Operand)
   (ho : o.op = .call { callee := .builtin .append, args := #[s, x], argTypes := #[27, 27] }) {M : Option Nat} (B S : Nat) {u : Value} {vs : List Val} {cs : List (List Value)} {v : Val} {c : List Value} {N cap m : Nat} (hm : vs.length = m) (hs : a.eval s = u) (hx : a.eval x = .slice (some ⟨N, 0, none⟩) 1 cap)
   (hN : ∀ j, j < 8 → w.cell? ⟨N, j, none⟩ = c[j]?) (h : RowC M B w u vs cs) (hv : HoldP (S ≤ ·) w c v) (hB : B ≤ S) (hS : ∀ g, u.ownBlock = some g → g < S) (hM : ∀ g, M = some g → g < S) (hn : m < 1000000) (hbw : B ≤ w.heap.size)
   (hK : ∀ g cap' w', RowC M B w' (.slice (some ⟨g, 0, none⟩) (m + 1) cap') (vs ++ [v]) (cs ++ [c]) → w.grownBy w' u.ownBlock → wpList Tryz.prog ops Q rest (a.put o.dst (.slice (some ⟨g, 0, none⟩) (m + 1) cap')) w') :
   wpList Tryz.prog ops Q (o :: rest) a w := by
 subst hm
 obtain ⟨i0, hi, hz0, hz1, hz2⟩ := info_parts infoValue
 have hc8 := holdP_len hv
 refine wpList_append_lies w hgd s x 27 ho B 29 i0 zeroV 8 112 Tryz.underlying27 hi hz0 hz1 hz2 rfl (by decide) u vs.length cs.flatten hs h.2.1 ⟨N, 0, none⟩ 1 cap c hx (by omega) ?_ (holdP_one hv) (by decide) (by unfold maxLen; omega) (by omega) hbw w.heap.size rfl ?_
 · intro j y hy
   rw [addr_at, hN j (by have := (List.getElem?_eq_some_iff.1 hy).1; omega), hy]
 · intro g cap' w' h2 h3 h4 _
   exact hK g cap' w' (h.push hv hB hS hM h2 h3 rfl h4) h3
theorem RowT.nil (B : Nat) (w : World) : RowT B w (.slice none 0 0) [] := World.ownsRow_nil _ _ _ _
theorem RowT.below {B : Nat} {w w' : World} {u : Value} {ls : List (List UInt8)} (h : RowT B w u ls) (b : Below w.heap.size w w') : RowT B w' u ls := by
 refine World.ownsRow.kept h (row := none) ⟨b.os, b.tape, b.output, b.size, fun k hk _ => b.block k hk⟩ ?_
 cases u.ownBlock with
 | none => exact .inl rfl
 | some g => exact .inr (by simp)
theorem RowT.other {B r : Nat} {w w' : World} {u : Value} {ls : List (List UInt8)} (h : RowT B w u ls) (b : w.grownBy w' (some r)) (hr : r < B) : RowT B w' u ls := by
 refine World.ownsRow.kept h b ?_
 rcases h.2 with ⟨rfl, _⟩ | ⟨g, cap, cur, rfl, hg, _⟩
 · exact .inl rfl
 · refine .inr fun e => ?_
   have e' : g = r := by simpa [Value.ownBlock] using e
   omega
theorem step_pushT {ops : Array Oper} {o : Oper} {a : Act} {w : World} {K : Act → World → Prop} {Q : Exit → Act → World → Prop} {E : Prop} (hgd : o.guard = none) (s x : Operand)
   (ho : o.op = .call { callee := .builtin .append, args := #[s, x], argTypes := #[26, 26] }) (B : Nat) {u : Value} {ls : List (List UInt8)} {l : List UInt8} {N cap m : Nat} (hm : ls.length = m) (hs : a.eval s = u) (hx : a.eval x = .slice (some ⟨N, 0, none⟩) 1 cap)
   (hN : w.cell? ⟨N, 0, none⟩ = some (.string (txt l))) (h : RowT B w u ls) (hn : m < 1000000) (hbw : B ≤ w.heap.size)
   (hK : ∀ g cap' w', RowT B w' (.slice (some ⟨g, 0, none⟩) (m + 1) cap') (ls ++ [l]) → w.grownBy w' u.ownBlock → (u.ownBlock = some g ∨ g = w.heap.size) → K (a.put o.dst (.slice (some ⟨g, 0, none⟩) (m + 1) cap')) w') :
   if Region.wanted o (yielded ops a.tmps) = true then Oper.wp Tryz.prog o a w K Q else E := by
 subst hm
 obtain ⟨i0, hi, hz0, hz1, hz2⟩ := info_parts infoText
 refine step_append_lies w hgd s x 26 ho B 9 i0 (.string ⟨#[]⟩) 1 16 Tryz.underlying26 hi hz0 hz1 hz2 rfl (by decide) u ls.length _ hs h ⟨N, 0, none⟩ 1 cap [.string (txt l)] hx rfl ?_ (by simp [Value.oneCell']) (by decide) (by unfold maxLen; omega) (by omega) hbw w.heap.size rfl ?_
 · intro j y hy
   match j with
   | 0 =>
     simp at hy
     subst hy
     rw [addr_at, hN]
   | j + 1 => simp at hy
 · intro g cap' w' h2 h3 h4 _
   refine hK g cap' w' ?_ h3 h4
   unfold RowT
   rw [List.map_append, List.length_append]
   exact h2
end Go.Proofs.YtlfbnfphocpgeaaGreatDoor.Tre
namespace Go.Proofs.YtlfbnfphocpgeaaGreatDoor.Tre
open Go.RowKit Kit Txt
open Num (Dec zero)
theorem below_set8 {w W : World} {g : Nat} (h : Below w.heap.size w W) (hg : w.heap.size ≤ g) (a b c d e f x y : Value) : Below w.heap.size w ((((((((W.setCell ⟨g, 0, none⟩ a).setCell ⟨g, 1, none⟩ b).setCell ⟨g, 2, none⟩ c).setCell ⟨g, 3, none⟩ d).setCell ⟨g, 4, none⟩ e).setCell ⟨g, 5, none⟩ f).setCell ⟨g, 6, none⟩ x).setCell ⟨g, 7, none⟩ y) :=
 (((((((h.setCell (p := ⟨g, 0, none⟩) hg a).setCell (p := ⟨g, 1, none⟩) hg b).setCell (p := ⟨g, 2, none⟩) hg c).setCell (p := ⟨g, 3, none⟩) hg d).setCell (p := ⟨g, 4, none⟩) hg e).setCell (p := ⟨g, 5, none⟩) hg f).setCell (p := ⟨g, 6, none⟩) hg x).setCell (p := ⟨g, 7, none⟩) hg y
theorem hold_none (w : World) : HoldV w (.agg #[.int .i64 0, .bool false, .bool false, .string ⟨#[]⟩, .int .i64 0, .string ⟨#[]⟩, .slice none 0 0, .slice none 0 0]) none' := by
 refine ⟨cellsV 0 false zero [] (.slice none 0 0) (.slice none 0 0), rfl, ?_⟩
 unfold none'
 rw [Hold]
 exact ⟨_, none, 0, rfl, ⟨none, 0, rfl, Nat.le_refl _, by omega, .inl rfl⟩, Nat.le_refl _, by omega, .inl rfl⟩
end Go.Proofs.YtlfbnfphocpgeaaGreatDoor.Tre
namespace Go.Proofs.YtlfbnfphocpgeaaGreatDoor.Tre
theorem nodup_len {α : Type} [DecidableEq α] : ∀ (a b : List α), a.Nodup → (∀ x ∈ a, x ∈ b) → a.length ≤ b.length
 | [], _, _, _ => Nat.zero_le _
 | x :: a, b, h, hs => by
   rw [List.nodup_cons] at h
   have hx := hs x (by simp)
   have ih := nodup_len a (b.erase x) h.2 fun y hy => (List.mem_erase_of_ne (fun e => h.1 (by rw [← e]; exact hy))).2 (hs y (by simp [hy]))
   rw [List.length_erase_of_mem hx] at ih
   have : 0 < b.length := List.length_pos_of_mem hx
   rw [List.length_cons]
   omega
theorem nodup_perm {α : Type} [DecidableEq α] : ∀ (a b : List α), a.Nodup → (∀ x ∈ a, x ∈ b) → b.length ≤ a.length → a.Perm b
 | [], b, _, _, hl => by
   have : b = [] := List.length_eq_zero_iff.1 (Nat.le_zero.1 hl)
   rw [this]
 | x :: a, b, h, hs, hl => by
   rw [List.nodup_cons] at h
   have hx := hs x (by simp)
   have ih := nodup_perm a (b.erase x) h.2 (fun y hy => (List.mem_erase_of_ne (fun e => h.1 (by rw [← e]; exact hy))).2 (hs y (by simp [hy]))) (by
     rw [List.length_erase_of_mem hx]
     rw [List.length_cons] at hl
     omega)
   exact (ih.cons x).trans (List.perm_cons_erase hx).symm
abbrev kat (ks : List (List UInt8)) (i : Nat) : List UInt8 := ks.getD i []
def Picked (ks : List (List UInt8)) (I : List Nat) : Prop :=
 I.Nodup ∧ (∀ i ∈ I, i < ks.length) ∧ I.Pairwise (fun i j => less (kat ks i) (kat ks j) = true) ∧ ∀ i ∈ I, ∀ j, j < ks.length → j ∉ I → less (kat ks i) (kat ks j) = true
def Best (ks : List (List UInt8)) (I : List Nat) (i : Nat) (b : Int) : Prop :=
 (b = -1 ∧ ∀ j, j < i → j ∈ I) ∨ ∃ m : Nat, b = (m : Int) ∧ m < i ∧ m ∉ I ∧ ∀ j, j < i → j ∉ I → j = m ∨ less (kat ks m) (kat ks j) = true
theorem Picked.nil (ks : List (List UInt8)) : Picked ks [] := ⟨by simp, by simp, by simp, by simp⟩
theorem Best.nil (ks : List (List UInt8)) (I : List Nat) : Best ks I 0 (-1) := .inl ⟨rfl, fun _ h => absurd h (Nat.not_lt_zero _)⟩
theorem Best.gone {ks : List (List UInt8)} {I : List Nat} {i : Nat} {b : Int} (h : Best ks I i b) (hi : i ∈ I) : Best ks I (i + 1) b := by
 rcases h with ⟨hb, h⟩ | ⟨m, hb, hm, hn, h⟩
 · refine .inl ⟨hb, fun j hj => ?_⟩
   by_cases e : j = i
   · rw [e]; exact hi
   · exact h j (by omega)
 · refine .inr ⟨m, hb, by omega, hn, fun j hj hjn => ?_⟩
   by_cases e : j = i
   · exact absurd (by rw [e]; exact hi) hjn
   · exact h j (by omega) hjn
theorem Best.first {ks : List (List UInt8)} {I : List Nat} {i : Nat} {b : Int} (h : Best ks I i b) (hb : b < 0) (hi : i ∉ I) : Best ks I (i + 1) (i : Int) := by
 rcases h with ⟨_, h⟩ | ⟨m, e, _⟩
 · refine .inr ⟨i, rfl, by omega, hi, fun j hj hjn => ?_⟩
   by_cases e : j = i
   · exact .inl e
   · exact absurd (h j (by omega)) hjn
 · omega
theorem Best.better {ks : List (List UInt8)} {I : List Nat} {i m : Nat} (h : Best ks I i (m : Int)) (hi : i ∉ I) (hl : less (kat ks i) (kat ks m) = true) : Best ks I (i + 1) (i : Int) := by
 rcases h with ⟨e, _⟩ | ⟨m', e, hm, hn, h⟩
 · omega
 · have e' : m' = m := by omega
   subst e'
   refine .inr ⟨i, rfl, by omega, hi, fun j hj hjn => ?_⟩
   by_cases e : j = i
   · exact .inl e
   · rcases h j (by omega) hjn with rfl | h
     · exact .inr hl
     · exact .inr (less_trans hl h)
theorem kat_ne {ks : List (List UInt8)} (h : ks.Nodup) {i j : Nat} (hi : i < ks.length) (hj : j < ks.length) (hne : i ≠ j) : kat ks i ≠ kat ks j := by
 intro e
 unfold kat at e
 rw [List.getD_eq_getElem?_getD, List.getD_eq_getElem?_getD, List.getElem?_eq_getElem hi, List.getElem?_eq_getElem hj] at e
 have e' : ks[i] = ks[j] := e
 rcases Nat.lt_or_ge i j with hlt | hge
 · exact List.pairwise_iff_getElem.1 h i j hi hj hlt e'
 · exact List.pairwise_iff_getElem.1 h j i hj hi (by omega) e'.symm
theorem Best.more {ks : List (List UInt8)} {I : List Nat} {i m : Nat} (h : Best ks I i (m : Int)) (hn : ks.Nodup) (hil : i < ks.length) (hl : less (kat ks i) (kat ks m) = false) : Best ks I (i + 1) (m : Int) := by
 rcases h with ⟨e, _⟩ | ⟨m', e, hm, hmn, h⟩
 · omega
 · have e' : m' = m := by omega
   subst e'
   refine .inr ⟨m', rfl, by omega, hmn, fun j hj hjn => ?_⟩
   by_cases e : j = i
   · rw [e]
     exact .inr (less_total (kat_ne hn hil (by omega) (by omega)) hl)
   · exact h j (by omega) hjn
theorem Best.last {ks : List (List UInt8)} {I : List Nat} {b : Int} (h : Best ks I ks.length b) (hI : I.length < ks.length) : ∃ m : Nat, b = (m : Int) ∧ m < ks.length ∧ m ∉ I ∧ ∀ j, j < ks.length → j ∉ I → j = m ∨ less (kat ks m) (kat ks j) = true := by
 rcases h with ⟨_, h⟩ | h
 · exfalso
   have := nodup_len (List.range ks.length) I List.nodup_range fun x hx => h x (List.mem_range.1 hx)
   rw [List.length_range] at this
   omega
 · exact h
theorem Picked.push {ks : List (List UInt8)} {I : List Nat} {m : Nat} (h : Picked ks I) (hm : m < ks.length) (hn : m ∉ I) (hb : ∀ j, j < ks.length → j ∉ I → j = m ∨ less (kat ks m) (kat ks j) = true) : Picked ks (I ++ [m]) := by
 obtain ⟨h1, h2, h3, h4⟩ := h
 refine ⟨?_, ?_, ?_, ?_⟩
 · rw [List.nodup_append]
   refine ⟨h1, by simp, fun a ha b hb => ?_⟩
   rw [List.mem_singleton.1 hb]
   rintro rfl
   exact hn ha
 · intro i hi
   rcases List.mem_append.1 hi with hi | hi
   · exact h2 i hi
   · rw [List.mem_singleton.1 hi]
     exact hm
 · rw [List.pairwise_append]
   refine ⟨h3, by simp, fun a ha b hb => ?_⟩
   rw [List.mem_singleton.1 hb]
   exact h4 a ha m hm hn
 · intro i hi j hj hjn
   have hj1 : j ∉ I := fun h => hjn (List.mem_append.2 (.inl h))
   have hj2 : j ≠ m := fun h => hjn (List.mem_append.2 (.inr (by rw [h]; simp)))
   rcases List.mem_append.1 hi with hi | hi
   · exact h4 i hi j hj hj1
   · rw [List.mem_singleton.1 hi]
     exact (hb j hj hj1).resolve_left hj2
def rowAt (ks : List (List UInt8)) (vs : List Val) (i : Nat) : Row := (kat ks i, (sorts vs).getD i none')
theorem zip_range (ks : List (List UInt8)) (vs : List Val) (h : ks.length = vs.length) : ks.zip (sorts vs) = (List.range ks.length).map (rowAt ks vs) := by
 apply List.ext_getElem
 · rw [List.length_zip, sorts_len, List.length_map, List.length_range]
   omega
 · intro i h1 h2
   rw [List.length_zip, sorts_len] at h1
   rw [List.getElem_zip, List.getElem_map, List.getElem_range]
   unfold rowAt kat
   rw [List.getD_eq_getElem?_getD, List.getD_eq_getElem?_getD, List.getElem?_eq_getElem (by omega), List.getElem?_eq_getElem (by rw [sorts_len]; omega)]
   rfl
theorem picked_all {ks : List (List UInt8)} {vs : List Val} {I : List Nat} (h : Picked ks I) (hl : ks.length = vs.length) (hn : ks.Nodup) (hI : I.length = ks.length) : rows ks vs = I.map (rowAt ks vs) := by
 refine rises_one (rows_rises hl hn) ?_ ?_
 · unfold Rises
   rw [List.pairwise_map]
   exact h.2.2.1
 · refine (sortP_perm _).trans ?_
   rw [zip_range ks vs hl]
   exact ((nodup_perm I (List.range ks.length) h.1 (fun x hx => List.mem_range.2 (h.2.1 x hx)) (by rw [List.length_range]; omega)).map _).symm
end Go.Proofs.YtlfbnfphocpgeaaGreatDoor.Tre
