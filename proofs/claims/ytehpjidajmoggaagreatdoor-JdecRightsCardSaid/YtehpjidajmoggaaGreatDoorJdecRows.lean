/- A row of keys and a row of values of the call's own, both appended to, beside a value in a block of its own. Nothing is claimed here. -/
import Derived.Test.YtehpjidajmoggaaGreatDoorJdecFill
namespace Go.Proofs.YtehpjidajmoggaaGreatDoor.Tre
open Go.RowKit Kit Txt
open Num (Dec zero)

theorem own_of {g m c q : Nat} (e : (Value.slice (some ⟨g, 0, none⟩) m c).ownBlock = some q) : q = g := by
  have h : g = q := by simpa [Value.ownBlock] using e
  exact h.symm
theorem rowT_lt {B : Nat} {w : World} {u : Value} {ls : List (List UInt8)} (h : RowT B w u ls) : ∀ g, u.ownBlock = some g → B ≤ g ∧ g < w.heap.size := by
  intro g hg
  rcases h.2 with ⟨rfl, _⟩ | ⟨g', cap, cur, rfl, hg', hb, _⟩
  · cases hg
  · have e : g' = g := by simpa [Value.ownBlock] using hg
    subst e
    exact ⟨hg', lt_of_heap hb⟩
theorem rowT_slice {B : Nat} {w : World} {u : Value} {ls : List (List UInt8)} (h : RowT B w u ls) : ∃ a c, u = .slice a ls.length c := by
  obtain ⟨a, c, hu, _⟩ := h.holds
  exact ⟨a, c, hu⟩
theorem rowC_slice {N : Option Nat} {B : Nat} {w : World} {u : Value} {vs : List Val} {cs : List (List Value)} (h : RowC N B w u vs cs) : ∃ a c, u = .slice a vs.length c := by
  obtain ⟨a, c, hu, _⟩ := h.holds
  exact ⟨a, c, hu⟩
theorem rows_diff {B : Nat} {w : World} {u1 u2 : Value} {M : Option Nat} {ls : List (List UInt8)} {vs : List Val} {cs : List (List Value)} (h1 : RowT B w u1 ls) (h2 : RowC M B w u2 vs cs) : ∀ g, u2.ownBlock = some g → u1.ownBlock ≠ some g := by
  intro g e2 e1
  rcases h1.2 with ⟨rfl, _⟩ | ⟨g1, c1, k1, rfl, _, hb1, _⟩
  · cases e1
  · rcases h2.2.1.2 with ⟨rfl, _⟩ | ⟨g2, c2, k2, rfl, _, hb2, _⟩
    · cases e2
    · have a1 : g1 = g := by simpa [Value.ownBlock] using e1
      have a2 : g2 = g := by simpa [Value.ownBlock] using e2
      subst a1; subst a2
      rw [hb1] at hb2
      injection hb2 with hb2
      injection hb2 with _ ht _
      exact absurd ht (by decide)
theorem rowT_apart {B : Nat} {w w' : World} {u1 u2 : Value} {M : Option Nat} {ls : List (List UInt8)} {vs : List Val} {cs : List (List Value)} (h1 : RowT B w u1 ls) (h2 : RowC M B w u2 vs cs) (b : w.grownBy w' u2.ownBlock) : RowT B w' u1 ls := by
  refine World.ownsRow.kept h1 b ?_
  cases e : u1.ownBlock with
  | none => exact .inl rfl
  | some g => exact .inr fun h => rows_diff h1 h2 g h.symm e
/-- What an append leaves, of a value whose memory is told. -/
theorem RowC.push2 {N : Option Nat} {B : Nat} {w w' : World} {u u' : Value} {vs : List Val} {v : Val} {c : List Value} {cs : List (List Value)} {g' : Nat} (h : RowC N B w u vs cs) (hv : HoldP (fun q => B ≤ q ∧ u.ownBlock ≠ some q ∧ N ≠ some q) w c v)
    (hown : w'.ownsRow B 28 8 u' (vs.length + 1) (cs.flatten ++ c)) (hg : w.grownBy w' u.ownBlock) (hu : u'.ownBlock = some g') (hg' : u.ownBlock = some g' ∨ g' = w.heap.size) : RowC N B w' u' (vs ++ [v]) (cs ++ [c]) := by
  obtain ⟨hl, _, hh⟩ := h
  have hne : ∀ g, u.ownBlock ≠ some g → g < w.heap.size → u'.ownBlock ≠ some g := fun g h1 h2 e => by
    rw [hu] at e
    cases e
    rcases hg' with e | e
    · exact h1 e
    · omega
  have fin : ∀ {c3 : List Value} {v3 : Val}, HoldP (fun g => B ≤ g ∧ u.ownBlock ≠ some g ∧ N ≠ some g) w c3 v3 → HoldP (fun g => B ≤ g ∧ u'.ownBlock ≠ some g ∧ N ≠ some g) w' c3 v3 := fun {c3 v3} hc =>
    HoldP.mono (X := fun g => B ≤ g ∧ u.ownBlock ≠ some g ∧ u'.ownBlock ≠ some g ∧ N ≠ some g) (fun g h _ => ⟨h.1, h.2.2.1, h.2.2.2⟩) v3 (HoldP.keep hg.size (fun g hX hlt => hg.block g hlt (fun e => hX.2.1 e.symm)) v3 (HoldP.mono (fun g hX hlt => ⟨hX.1, hX.2.1, hne g hX.2.1 hlt, hX.2.2⟩) v3 hc))
  refine ⟨by simp [hl], by simpa using hown, fun i c2 v2 h1 h2 => ?_⟩
  by_cases hi : i < cs.length
  · rw [List.getElem?_append_left hi] at h1
    rw [List.getElem?_append_left (by omega)] at h2
    exact fin (hh i c2 v2 h1 h2)
  · have hi' : i = cs.length := by
      have := (List.getElem?_eq_some_iff.1 h1).1
      simp at this
      omega
    subst hi'
    rw [List.getElem?_append_right (Nat.le_refl _)] at h1
    rw [List.getElem?_append_right (by omega)] at h2
    rw [Nat.sub_self] at h1
    rw [show cs.length - vs.length = 0 by omega] at h2
    simp at h1 h2
    subst h1; subst h2
    exact fin hv

/-- Both rows, a value beside them, and some blocks that are none of theirs. -/
structure Rows2 (B : Nat) (L : List (Nat × Obj)) (w : World) (uk : Value) (keys : List (List UInt8)) (uv : Value) (kids : List Val) (cs : List (List Value)) (c : List Value) (z : Val) : Prop where
  base : B ≤ w.heap.size
  T : RowT B w uk keys
  C : RowC uk.ownBlock B w uv kids cs
  P : HoldP (fun q => B ≤ q ∧ uv.ownBlock ≠ some q ∧ uk.ownBlock ≠ some q) w c z
  box : ∀ e ∈ L, w.heap[e.1]? = some e.2 ∧ uv.ownBlock ≠ some e.1 ∧ uk.ownBlock ≠ some e.1
theorem Rows2.get {B : Nat} {L : List (Nat × Obj)} {w : World} {uk uv : Value} {keys : List (List UInt8)} {kids : List Val} {cs : List (List Value)} {c : List Value} {z : Val} (h : Rows2 B L w uk keys uv kids cs c z) {i : Nat} {o : Obj} (hm : (i, o) ∈ L) : w.heap[i]? = some o := (h.box _ hm).1
theorem Rows2.below {B : Nat} {L : List (Nat × Obj)} {w w' : World} {uk uv : Value} {keys : List (List UInt8)} {kids : List Val} {cs : List (List Value)} {c : List Value} {z : Val} (h : Rows2 B L w uk keys uv kids cs c z) (b : Below w.heap.size w w') : Rows2 B L w' uk keys uv kids cs c z :=
  ⟨Nat.le_trans h.base b.size, h.T.below b, h.C.below b, HoldP.keep b.size (fun g _ hg => b.block g hg) z h.P, fun e he => ⟨(b.block _ (lt_of_heap (h.box e he).1)).trans (h.box e he).1, (h.box e he).2⟩⟩
/-- A new block. -/
theorem Rows2.add {B : Nat} {L : List (Nat × Obj)} {w : World} {uk uv : Value} {keys : List (List UInt8)} {kids : List Val} {cs : List (List Value)} {c : List Value} {z : Val} (h : Rows2 B L w uk keys uv kids cs c z) (o : Obj) : Rows2 B ((w.heap.size, o) :: L) (w.alloc o) uk keys uv kids cs c z := by
  have h2 := h.below ((Below.refl _ w).alloc (Nat.le_refl _) o)
  refine ⟨h2.base, h2.T, h2.C, h2.P, fun e he => ?_⟩
  rcases List.mem_cons.1 he with he | he
  · subst he
    refine ⟨World.alloc_heap_new w o, fun e => ?_, fun e => ?_⟩
    · have := (h.C.own_lt _ e).2
      omega
    · have := (rowT_lt h.T _ e).2
      omega
  · exact h2.box e he
theorem grown_below2 {B : Nat} {w w' : World} {row : Option Nat} (h : w.grownBy w' row) (hB : B ≤ w.heap.size) (hr : ∀ g, row = some g → B ≤ g) : Below B w w' :=
  ⟨h.os, h.tape, h.output, h.size, fun k hk => h.block k (by omega) (fun e => by have := hr k e.symm; omega)⟩
/-- 'append(keys, k)'. -/
theorem step_keys {ops : Array Oper} {o : Oper} {a : Act} {w : World} {K : Act → World → Prop} {Q : Exit → Act → World → Prop} {E0 : Prop} (hgd : o.guard = none) (s x : Operand)
    (ho : o.op = .call { callee := .builtin .append, args := #[s, x], argTypes := #[25, 25] }) {B : Nat} {L : List (Nat × Obj)} {uk uv : Value} {keys : List (List UInt8)} {kids : List Val} {cs : List (List Value)} {c : List Value} {z : Val} {l : List UInt8} {N cap m : Nat} (hm : keys.length = m) (hs : a.eval s = uk) (hx : a.eval x = .slice (some ⟨N, 0, none⟩) 1 cap)
    (h : Rows2 B L w uk keys uv kids cs c z) (hN : (N, Obj.cells #[.string (txt l)] 9 (0, 0)) ∈ L) (hn : m < 1000000)
    (hK : ∀ g cap' w', Rows2 B L w' (.slice (some ⟨g, 0, none⟩) (m + 1) cap') (keys ++ [l]) uv kids cs c z → Below B w w' → K (a.put o.dst (.slice (some ⟨g, 0, none⟩) (m + 1) cap')) w') :
    if Region.wanted o (yielded ops a.tmps) = true then Oper.wp Tryz.prog o a w K Q else E0 := by
  refine step_pushT hgd s x ho B hm hs hx (cell_of (h.get hN) 0) h.T hn h.base fun g cap' w' hT hg hg' => hK g cap' w' ⟨Nat.le_trans h.base hg.size, hT, ?_, ?_, ?_⟩ (grown_below2 hg h.base fun g e => (rowT_lt h.T g e).1)
  · exact h.C.renew hg (fun g e => rows_diff h.T h.C g e) (fun g' e => by
      have e' : g = g' := by simpa [Value.ownBlock] using e
      subst e'
      exact hg')
  · have h1 := HoldP.mono (Y := fun q => B ≤ q ∧ uv.ownBlock ≠ some q ∧ uk.ownBlock ≠ some q ∧ q ≠ g) (fun q hq hlt => ⟨hq.1, hq.2.1, hq.2.2, fun e => by
      subst e
      rcases hg' with e | e
      · exact hq.2.2 e
      · omega⟩) z h.P
    exact HoldP.mono (fun q hq _ => ⟨hq.1, hq.2.1, fun e => hq.2.2.2 (own_of e)⟩) z (HoldP.keep hg.size (fun q hq hlt => hg.block q hlt (fun e => hq.2.2.1 e.symm)) z h1)
  · intro e he
    obtain ⟨b1, b2, b3⟩ := h.box e he
    refine ⟨(hg.block _ (lt_of_heap b1) (fun e => b3 e.symm)).trans b1, b2, fun e2 => ?_⟩
    have e' := own_of e2
    rcases hg' with e3 | e3
    · exact b3 (by rw [e']; exact e3)
    · have := lt_of_heap b1
      omega
/-- 'append(kids, v)'. -/
theorem step_kids {ops : Array Oper} {o : Oper} {a : Act} {w : World} {K : Act → World → Prop} {Q : Exit → Act → World → Prop} {E0 : Prop} (hgd : o.guard = none) (s x : Operand)
    (ho : o.op = .call { callee := .builtin .append, args := #[s, x], argTypes := #[26, 26] }) {B : Nat} {L : List (Nat × Obj)} {uk uv : Value} {keys : List (List UInt8)} {kids : List Val} {cs : List (List Value)} {c : List Value} {z : Val} {N cap m : Nat} (hm : kids.length = m) (hs : a.eval s = uv) (hx : a.eval x = .slice (some ⟨N, 0, none⟩) 1 cap)
    (h : Rows2 B L w uk keys uv kids cs c z) (hN : (N, Obj.cells c.toArray 28 (0, 0)) ∈ L) (hn : m < 1000000)
    (hK : ∀ g cap' w', Rows2 B L w' uk keys (.slice (some ⟨g, 0, none⟩) (m + 1) cap') (kids ++ [z]) (cs ++ [c]) c z → Below B w w' → K (a.put o.dst (.slice (some ⟨g, 0, none⟩) (m + 1) cap')) w') :
    if Region.wanted o (yielded ops a.tmps) = true then Oper.wp Tryz.prog o a w K Q else E0 := by
  subst hm
  obtain ⟨i0, hi, hz0, hz1, hz2⟩ := info_parts infoValue
  have hc8 := holdP_len h.P
  refine step_append_lies w hgd s x 26 ho B 28 i0 zeroV 8 112 Tryz.underlying26 hi hz0 hz1 hz2 rfl (by decide) uv kids.length cs.flatten hs h.C.2.1 ⟨N, 0, none⟩ 1 cap c hx (by omega) ?_ (holdP_one h.P) (by decide) (by unfold maxLen; omega) (by omega) h.base w.heap.size rfl ?_
  · intro j y hy
    rw [addr_at, cell_of (h.get hN)]
    simpa using hy
  · intro g cap' w' h2 hg hg' _
    refine hK g cap' w' ⟨Nat.le_trans h.base hg.size, rowT_apart h.T h.C hg, h.C.push2 h.P h2 hg rfl hg', ?_, ?_⟩ (grown_below2 hg h.base fun g e => (h.C.own_lt g e).1)
    · have h1 := HoldP.mono (Y := fun q => B ≤ q ∧ uv.ownBlock ≠ some q ∧ uk.ownBlock ≠ some q ∧ q ≠ g) (fun q hq hlt => ⟨hq.1, hq.2.1, hq.2.2, fun e => by
        subst e
        rcases hg' with e | e
        · exact hq.2.1 e
        · omega⟩) z h.P
      exact HoldP.mono (fun q hq _ => ⟨hq.1, fun e => hq.2.2.2 (own_of e), hq.2.2.1⟩) z (HoldP.keep hg.size (fun q hq hlt => hg.block q hlt (fun e => hq.2.1 e.symm)) z h1)
    · intro e he
      obtain ⟨b1, b2, b3⟩ := h.box e he
      refine ⟨(hg.block _ (lt_of_heap b1) (fun e => b2 e.symm)).trans b1, fun e2 => ?_, b3⟩
      have e' := own_of e2
      rcases hg' with e3 | e3
      · exact b2 (by rw [e']; exact e3)
      · have := lt_of_heap b1
        omega
end Go.Proofs.YtehpjidajmoggaaGreatDoor.Tre
