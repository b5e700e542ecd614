/- A whole value (eight cells) stored at a place of a block. A row of values of the call's own, whose last value is stored anew. Nothing is claimed here. -/
import Derived.Test.YtehpjidajmoggaaGreatDoorTreeHold
import Derived.Test.YtehpjidajmoggaaGreatDoorTreeFresh
namespace Go.Proofs.YtehpjidajmoggaaGreatDoor.Tre
open Go.RowKit Kit Txt

theorem setc_other {W : World} {g k i : Nat} (v : Value) (hk : k ≠ g) : (W.setCell ⟨g, i, none⟩ v).heap[k]? = W.heap[k]? := by
  show (W.heap.modify g _)[k]? = _
  rw [Array.getElem?_modify]
  simp [Ne.symm hk]
/-- A whole value is stored at a place. -/
def put8 (W : World) (g o : Nat) (a b c d e f x y : Value) : World :=
  (((((((W.setCell ⟨g, o, none⟩ a).setCell ⟨g, o + 1, none⟩ b).setCell ⟨g, o + 2, none⟩ c).setCell ⟨g, o + 3, none⟩ d).setCell ⟨g, o + 4, none⟩ e).setCell ⟨g, o + 5, none⟩ f).setCell ⟨g, o + 6, none⟩ x).setCell ⟨g, o + 7, none⟩ y
theorem put8_block {W : World} {g k o : Nat} (hk : k ≠ g) (a b c d e f x y : Value) : (put8 W g o a b c d e f x y).heap[k]? = W.heap[k]? := by
  unfold put8
  simp only [setc_other _ hk]
theorem put8_size (W : World) (g o : Nat) (a b c d e f x y : Value) : (put8 W g o a b c d e f x y).heap.size = W.heap.size := by
  simp [put8, World.setCell, Array.size_modify]
theorem put8_own {W : World} {g o : Nat} {arr : Array Value} {t : TypeId} {fr : Nat × Nat} (h : W.heap[g]? = some (.cells arr t fr)) (a b c d e f x y : Value) : ∃ arr' : Array Value, arr'.size = arr.size ∧ (put8 W g o a b c d e f x y).heap[g]? = some (.cells arr' t fr) := by
  have := (set_of (set_of (set_of (set_of (set_of (set_of (set_of (set_of h o a) (o + 1) b) (o + 2) c) (o + 3) d) (o + 4) e) (o + 5) f) (o + 6) x) (o + 7) y)
  exact ⟨_, by simp, this⟩
theorem put8_cell {W : World} {g o i : Nat} (hi : i < o ∨ o + 8 ≤ i) (a b c d e f x y : Value) : (put8 W g o a b c d e f x y).cell? ⟨g, i, none⟩ = W.cell? ⟨g, i, none⟩ := by
  unfold put8
  have ne : ∀ k, k < 8 → (⟨g, o + k, none⟩ : Addr) ≠ ⟨g, i, none⟩ := fun k hk e => by
    injection e with _ e _
    omega
  rw [World.cell?_setCell_other _ _ _ _ (ne 7 (by omega)), World.cell?_setCell_other _ _ _ _ (ne 6 (by omega)), World.cell?_setCell_other _ _ _ _ (ne 5 (by omega)), World.cell?_setCell_other _ _ _ _ (ne 4 (by omega)), World.cell?_setCell_other _ _ _ _ (ne 3 (by omega)), World.cell?_setCell_other _ _ _ _ (ne 2 (by omega)), World.cell?_setCell_other _ _ _ _ (ne 1 (by omega)), World.cell?_setCell_other _ _ _ _ (show (⟨g, o, none⟩ : Addr) ≠ ⟨g, i, none⟩ from fun e => by injection e with _ e _; omega)]
theorem put8_at {W : World} {g o : Nat} {arr : Array Value} {t : TypeId} {fr : Nat × Nat} (h : W.heap[g]? = some (.cells arr t fr)) (ho : o + 8 ≤ arr.size) (a b c d e f x y : Value) : At8 (put8 W g o a b c d e f x y) g o [a, b, c, d, e, f, x, y] := by
  have h2 := (set_of (set_of (set_of (set_of (set_of (set_of (set_of (set_of h o a) (o + 1) b) (o + 2) c) (o + 3) d) (o + 4) e) (o + 5) f) (o + 6) x) (o + 7) y)
  refine ⟨rfl, fun j hj => ?_⟩
  have h3 := cell_of h2 (o + j)
  refine h3.trans ?_
  rcases j with _ | _ | _ | _ | _ | _ | _ | _ | j
  all_goals first | omega | skip
  all_goals
    simp only [Array.getElem?_setIfInBounds]
    simp
    omega
theorem put8_below {N : Nat} {w W : World} {g : Nat} (h : Below N w W) (hg : N ≤ g) (o : Nat) (a b c d e f x y : Value) : Below N w (put8 W g o a b c d e f x y) :=
  (((((((h.setCell (p := ⟨g, o, none⟩) hg a).setCell (p := ⟨g, o + 1, none⟩) hg b).setCell (p := ⟨g, o + 2, none⟩) hg c).setCell (p := ⟨g, o + 3, none⟩) hg d).setCell (p := ⟨g, o + 4, none⟩) hg e).setCell (p := ⟨g, o + 5, none⟩) hg f).setCell (p := ⟨g, o + 6, none⟩) hg x).setCell (p := ⟨g, o + 7, none⟩) hg y
/-- The eight cells of a block from a place on. -/
theorem block8 {W : World} {g o : Nat} {arr : Array Value} {t : TypeId} {fr : Nat × Nat} (h : W.heap[g]? = some (.cells arr t fr)) (ho : o + 8 ≤ arr.size) : ∃ z0 z1 z2 z3 z4 z5 z6 z7 : Value, W.cell? ⟨g, o, none⟩ = some z0 ∧ W.cell? ⟨g, o + 1, none⟩ = some z1 ∧ W.cell? ⟨g, o + 2, none⟩ = some z2 ∧ W.cell? ⟨g, o + 3, none⟩ = some z3 ∧ W.cell? ⟨g, o + 4, none⟩ = some z4 ∧ W.cell? ⟨g, o + 5, none⟩ = some z5 ∧ W.cell? ⟨g, o + 6, none⟩ = some z6 ∧ W.cell? ⟨g, o + 7, none⟩ = some z7 := by
  refine ⟨arr[o], arr[o + 1], arr[o + 2], arr[o + 3], arr[o + 4], arr[o + 5], arr[o + 6], arr[o + 7], ?_⟩
  refine ⟨?_, ?_, ?_, ?_, ?_, ?_, ?_, ?_⟩
  all_goals rw [cell_of h]; exact Array.getElem?_eq_getElem _
end Go.Proofs.YtehpjidajmoggaaGreatDoor.Tre
namespace Go.Proofs.YtehpjidajmoggaaGreatDoor.Tre
open Go.RowKit Kit Txt
open Num (Dec zero)

theorem flat_len {cs : List (List Value)} (h : ∀ x ∈ cs, x.length = 8) : cs.flatten.length = cs.length * 8 := by
  induction cs with
  | nil => rfl
  | cons x r ih =>
    rw [List.flatten_cons, List.length_append, ih fun y hy => h y (List.mem_cons_of_mem _ hy), h x List.mem_cons_self, List.length_cons]
    omega
theorem RowC.eights {N : Option Nat} {B : Nat} {w : World} {u : Value} {vs : List Val} {cs : List (List Value)} (h : RowC N B w u vs cs) : ∀ x ∈ cs, x.length = 8 := fun x hx => by
  obtain ⟨hl, -, hh⟩ := h
  obtain ⟨i, hi, e⟩ := List.mem_iff_getElem.1 hx
  exact holdP_len (hh i x (vs[i]'(by omega)) (by rw [List.getElem?_eq_getElem hi, e]) (List.getElem?_eq_getElem (by omega)))
/-- The row's block, where it has one. -/
theorem RowC.block {N : Option Nat} {B g cap m : Nat} {w : World} {vs : List Val} {cs : List (List Value)} (h : RowC N B w (.slice (some ⟨g, 0, none⟩) m cap) vs cs) : B ≤ g ∧ m = vs.length ∧ m ≤ cap ∧ ∃ cur : Array Value, w.heap[g]? = some (.cells cur 28 (0, 0)) ∧ cur.size = cap * 8 ∧ cur.toList.take (m * 8) = cs.flatten := by
  obtain ⟨hl, ⟨h1, h2⟩, hh⟩ := h
  rcases h2 with ⟨h2, -⟩ | ⟨g', cap', cur, h2, hg, hb, hc, hm, hz, ht⟩
  · cases h2
  · injection h2 with e1 e2 e3
    injection e1 with e1
    injection e1 with e1 _ _
    subst e1; subst e3
    exact ⟨hg, e2, by omega, cur, hb, hz, by rw [e2]; exact ht⟩
theorem RowC.fill {N : Option Nat} {B g cap m : Nat} {w : World} {vs : List Val} {cs : List (List Value)} {z0 z : Val} {c0 : List Value} {a b c d e f x y : Value}
    (h : RowC N B w (.slice (some ⟨g, 0, none⟩) (m + 1) cap) (vs ++ [z0]) (cs ++ [c0])) (hm : vs.length = m)
    (hz : HoldP (fun q => B ≤ q ∧ (Value.slice (some ⟨g, 0, none⟩) (m + 1) cap).ownBlock ≠ some q ∧ N ≠ some q) w [a, b, c, d, e, f, x, y] z) :
    RowC N B (put8 w g (m * 8) a b c d e f x y) (.slice (some ⟨g, 0, none⟩) (m + 1) cap) (vs ++ [z]) (cs ++ [[a, b, c, d, e, f, x, y]]) := by
  have h8 := h.eights
  obtain ⟨hB, -, hmc, cur, hb, hcz, htk⟩ := h.block
  obtain ⟨hl, hown, hh⟩ := h
  obtain ⟨o1, o2⟩ := hown
  have hcl : cs.length = m := by simp at hl; omega
  have h8c : ∀ x ∈ cs, x.length = 8 := fun x hx => h8 x (by simp [hx])
  have h80 : c0.length = 8 := h8 c0 (by simp)
  have hfl := flat_len h8c
  obtain ⟨arr', hz', hb'⟩ := put8_own hb a b c d e f x y (o := m * 8)
  have hcap : (m + 1) * 8 ≤ cap * 8 := by omega
  have hmax : cap ≤ maxLen := by
    rcases o2 with ⟨h2, -⟩ | ⟨g', cap', cur', h2, hg', hb2, hc2, hm2, -⟩
    · cases h2
    · injection h2 with e1 e2 e3
      subst e3
      exact hm2
  have hat := put8_at hb (o := m * 8) (by omega) a b c d e f x y
  have htake : arr'.toList.take ((m + 1) * 8) = (cs ++ [[a, b, c, d, e, f, x, y]]).flatten := by
    apply List.ext_getElem?
    intro i
    rw [List.flatten_append, List.flatten_singleton, List.getElem?_take]
    by_cases hi : i < (m + 1) * 8
    · rw [if_pos hi]
      have e1 : arr'.toList[i]? = (put8 w g (m * 8) a b c d e f x y).cell? ⟨g, i, none⟩ := by rw [cell_of hb', Array.getElem?_toList]
      rw [e1]
      by_cases hi2 : i < m * 8
      · rw [put8_cell (.inl hi2), cell_of hb, List.getElem?_append_left (by omega)]
        have e2 : (cur.toList.take ((m + 1) * 8))[i]? = (cs ++ [c0]).flatten[i]? := by rw [htk]
        rw [List.getElem?_take, if_pos hi, List.flatten_append, List.getElem?_append_left (by omega), Array.getElem?_toList] at e2
        exact e2
      · have h2 := hat.2 (i - m * 8) (by omega)
        rw [show m * 8 + (i - m * 8) = i by omega] at h2
        rw [h2, List.getElem?_append_right (by omega), hfl, hcl]
    · rw [if_neg hi, List.getElem?_eq_none]
      rw [List.length_append, hfl, hcl]
      simp
      omega
  have keep : ∀ {c3 : List Value} {v3 : Val}, HoldP (fun q => B ≤ q ∧ (Value.slice (some ⟨g, 0, none⟩) (m + 1) cap).ownBlock ≠ some q ∧ N ≠ some q) w c3 v3 → HoldP (fun q => B ≤ q ∧ (Value.slice (some ⟨g, 0, none⟩) (m + 1) cap).ownBlock ≠ some q ∧ N ≠ some q) (put8 w g (m * 8) a b c d e f x y) c3 v3 := fun {c3 v3} hc =>
    HoldP.keep (by rw [put8_size]; exact Nat.le_refl _) (fun q hq _ => put8_block (fun e => hq.2.1 (by rw [e]; rfl)) _ _ _ _ _ _ _ _) v3 hc
  refine ⟨by simp; omega, ⟨?_, .inr ⟨g, cap, arr', by simp [hm], hB, hb', ?_, hmax, by omega, ?_⟩⟩, fun i c2 v2 h1 h2 => ?_⟩
  · rw [← htake, List.length_take, Array.length_toList, hz', hcz]
    simp
    omega
  · simp
    omega
  · rw [show (vs ++ [z]).length = m + 1 by simp [hm]]
    exact htake
  · by_cases hi : i < cs.length
    · rw [List.getElem?_append_left hi] at h1
      rw [List.getElem?_append_left (by omega)] at h2
      exact keep (hh i c2 v2 (by rw [List.getElem?_append_left hi]; exact h1) (by rw [List.getElem?_append_left (by omega)]; exact h2))
    · have hi' : i = cs.length := by
        have := (List.getElem?_eq_some_iff.1 h1).1
        simp at this
        omega
      subst hi'
      rw [List.getElem?_append_right (Nat.le_refl _)] at h1
      rw [List.getElem?_append_right (by omega)] at h2
      rw [Nat.sub_self] at h1
      rw [show cs.length - vs.length = 0 by omega] at h2
      simp at h1 h2
      subst h1; subst h2
      exact keep hz
/-- 'append(row, v)', as step_push, with what is known of the block. -/
theorem step_push4 {ops : Array Oper} {o : Oper} {a : Act} {w : World} {K : Act → World → Prop} {Q : Exit → Act → World → Prop} {E : Prop} (hgd : o.guard = none) (s x : Operand)
    (ho : o.op = .call { callee := .builtin .append, args := #[s, x], argTypes := #[26, 26] }) {M : Option Nat} (B S : Nat) {u : Value} {vs : List Val} {cs : List (List Value)} {v : Val} {c : List Value} {N cap m : Nat} (hm : vs.length = m) (hs : a.eval s = u) (hx : a.eval x = .slice (some ⟨N, 0, none⟩) 1 cap)
    (hN : ∀ j, j < 8 → w.cell? ⟨N, j, none⟩ = c[j]?) (h : RowC M B w u vs cs) (hv : HoldP (S ≤ ·) w c v) (hB : B ≤ S) (hS : ∀ g, u.ownBlock = some g → g < S) (hM : ∀ g, M = some g → g < S) (hn : m < 1000000) (hbw : B ≤ w.heap.size)
    (hK : ∀ g cap' w', RowC M B w' (.slice (some ⟨g, 0, none⟩) (m + 1) cap') (vs ++ [v]) (cs ++ [c]) → w.grownBy w' u.ownBlock → (u.ownBlock = some g ∨ g = w.heap.size) → K (a.put o.dst (.slice (some ⟨g, 0, none⟩) (m + 1) cap')) w') :
    if Region.wanted o (yielded ops a.tmps) = true then Oper.wp Tryz.prog o a w K Q else E := by
  subst hm
  obtain ⟨i0, hi, hz0, hz1, hz2⟩ := info_parts infoValue
  have hc8 := holdP_len hv
  refine step_append_lies w hgd s x 26 ho B 28 i0 zeroV 8 112 Tryz.underlying26 hi hz0 hz1 hz2 rfl (by decide) u vs.length cs.flatten hs h.2.1 ⟨N, 0, none⟩ 1 cap c hx (by omega) ?_ (holdP_one hv) (by decide) (by unfold maxLen; omega) (by omega) hbw w.heap.size rfl ?_
  · intro j y hy
    rw [addr_at, hN j (by have := (List.getElem?_eq_some_iff.1 hy).1; omega), hy]
  · intro g cap' w' h2 h3 h4 _
    exact hK g cap' w' (h.push hv hB hS hM h2 h3 rfl h4) h3 h4
end Go.Proofs.YtehpjidajmoggaaGreatDoor.Tre
