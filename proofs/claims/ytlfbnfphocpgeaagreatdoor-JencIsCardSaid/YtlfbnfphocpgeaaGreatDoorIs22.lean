/- A part of what is_holds leans on (its texts, put together). Nothing is claimed here. -/
import Derived.Test.YtlfbnfphocpgeaaGreatDoorIs4
namespace Go.Proofs.YtlfbnfphocpgeaaGreatDoor.Tre
open Go.RowKit Kit Txt
theorem setc_other {W : World} {g k i : Nat} (v : Value) (hk : k ≠ g) : (W.setCell ⟨g, i, none⟩ v).heap[k]? = W.heap[k]? := by
 show (W.heap.modify g _)[k]? = _
 rw [Array.getElem?_modify]
 simp [Ne.symm hk]
def put8 (W : World) (g o : Nat) (a b c d e f x y : Value) : World :=
 (((((((W.setCell ⟨g, o, none⟩ a).setCell ⟨g, o + 1, none⟩ b).setCell ⟨g, o + 2, none⟩ c).setCell ⟨g, o + 3, none⟩ d).setCell ⟨g, o + 4, none⟩ e).setCell ⟨g, o + 5, none⟩ f).setCell ⟨g, o + 6, none⟩ x).setCell ⟨g, o + 7, none⟩ y
theorem put8_block {W : World} {g k o : Nat} (hk : k ≠ g) (a b c d e f x y : Value) : (put8 W g o a b c d e f x y).heap[k]? = W.heap[k]? := by
 unfold put8
 simp only [setc_other _ hk]
theorem put8_size (W : World) (g o : Nat) (a b c d e f x y : Value) : (put8 W g o a b c d e f x y).heap.size = W.heap.size := by
 simp [put8, World.setCell, Array.size_modify]
theorem put8_own {W : World} {g o : Nat} {arr : Array Value} {t : TypeId} {fr : Nat × Nat} (h : W.heap[g]? = some (.cells arr t fr)) (a b c d e f x y : Value) : ∃ arr' : Array Value, arr'.size = arr.size ∧ (put8 W g o a b c d e f x y).heap[g]? = some (.cells arr' t fr) := by
 have := (set_of (set_of (set_of (set_of (set_of (set_of (set_of (set_of h o a) (o + 1) b) (o + 2) c) (o + 3) d) (o + 4) e) (o + 5) f) (o + 6) x) (o + 7) y)
 exact ⟨_, by simp, this⟩
theorem put8_cell {W : World} {g o i : Nat} (hi : i < o ∨ o + 8 ≤ i) (a b c d e f x y : Value) : (put8 W g o a b c d e f x y).cell? ⟨g, i, none⟩ = W.cell? ⟨g, i, none⟩ := by
 unfold put8
 have ne : ∀ k, k < 8 → (⟨g, o + k, none⟩ : Addr) ≠ ⟨g, i, none⟩ := fun k hk e => by
   injection e with _ e _
   omega
 rw [World.cell?_setCell_other _ _ _ _ (ne 7 (by omega)), World.cell?_setCell_other _ _ _ _ (ne 6 (by omega)), World.cell?_setCell_other _ _ _ _ (ne 5 (by omega)), World.cell?_setCell_other _ _ _ _ (ne 4 (by omega)), World.cell?_setCell_other _ _ _ _ (ne 3 (by omega)), World.cell?_setCell_other _ _ _ _ (ne 2 (by omega)), World.cell?_setCell_other _ _ _ _ (ne 1 (by omega)), World.cell?_setCell_other _ _ _ _ (show (⟨g, o, none⟩ : Addr) ≠ ⟨g, i, none⟩ from fun e => by injection e with _ e _; omega)]
theorem put8_at {W : World} {g o : Nat} {arr : Array Value} {t : TypeId} {fr : Nat × Nat} (h : W.heap[g]? = some (.cells arr t fr)) (ho : o + 8 ≤ arr.size) (a b c d e f x y : Value) : At8 (put8 W g o a b c d e f x y) g o [a, b, c, d, e, f, x, y] := by
 have h2 := (set_of (set_of (set_of (set_of (set_of (set_of (set_of (set_of h o a) (o + 1) b) (o + 2) c) (o + 3) d) (o + 4) e) (o + 5) f) (o + 6) x) (o + 7) y)
 refine ⟨rfl, fun j hj => ?_⟩
 have h3 := cell_of h2 (o + j)
 refine h3.trans ?_
 rcases j with _ | _ | _ | _ | _ | _ | _ | _ | j
 all_goals first | omega | skip
 all_goals
   simp only [Array.getElem?_setIfInBounds]
   simp
   omega
theorem put8_below {N : Nat} {w W : World} {g : Nat} (h : Below N w W) (hg : N ≤ g) (o : Nat) (a b c d e f x y : Value) : Below N w (put8 W g o a b c d e f x y) :=
 (((((((h.setCell (p := ⟨g, o, none⟩) hg a).setCell (p := ⟨g, o + 1, none⟩) hg b).setCell (p := ⟨g, o + 2, none⟩) hg c).setCell (p := ⟨g, o + 3, none⟩) hg d).setCell (p := ⟨g, o + 4, none⟩) hg e).setCell (p := ⟨g, o + 5, none⟩) hg f).setCell (p := ⟨g, o + 6, none⟩) hg x).setCell (p := ⟨g, o + 7, none⟩) hg y
theorem block8 {W : World} {g o : Nat} {arr : Array Value} {t : TypeId} {fr : Nat × Nat} (h : W.heap[g]? = some (.cells arr t fr)) (ho : o + 8 ≤ arr.size) : ∃ z0 z1 z2 z3 z4 z5 z6 z7 : Value, W.cell? ⟨g, o, none⟩ = some z0 ∧ W.cell? ⟨g, o + 1, none⟩ = some z1 ∧ W.cell? ⟨g, o + 2, none⟩ = some z2 ∧ W.cell? ⟨g, o + 3, none⟩ = some z3 ∧ W.cell? ⟨g, o + 4, none⟩ = some z4 ∧ W.cell? ⟨g, o + 5, none⟩ = some z5 ∧ W.cell? ⟨g, o + 6, none⟩ = some z6 ∧ W.cell? ⟨g, o + 7, none⟩ = some z7 := by
 refine ⟨arr[o], arr[o + 1], arr[o + 2], arr[o + 3], arr[o + 4], arr[o + 5], arr[o + 6], arr[o + 7], ?_⟩
 refine ⟨?_, ?_, ?_, ?_, ?_, ?_, ?_, ?_⟩
 all_goals rw [cell_of h]; exact Array.getElem?_eq_getElem _
end Go.Proofs.YtlfbnfphocpgeaaGreatDoor.Tre
namespace Go.Proofs.YtlfbnfphocpgeaaGreatDoor.Tre
open Go.RowKit Kit Txt
open Num (Dec zero)
theorem flat_len {cs : List (List Value)} (h : ∀ x ∈ cs, x.length = 8) : cs.flatten.length = cs.length * 8 := by
 induction cs with
 | nil => rfl
 | cons x r ih =>
   rw [List.flatten_cons, List.length_append, ih fun y hy => h y (List.mem_cons_of_mem _ hy), h x List.mem_cons_self, List.length_cons]
   omega
theorem RowC.eights {N : Option Nat} {B : Nat} {w : World} {u : Value} {vs : List Val} {cs : List (List Value)} (h : RowC N B w u vs cs) : ∀ x ∈ cs, x.length = 8 := fun x hx => by
 obtain ⟨hl, -, hh⟩ := h
 obtain ⟨i, hi, e⟩ := List.mem_iff_getElem.1 hx
 exact holdP_len (hh i x (vs[i]'(by omega)) (by rw [List.getElem?_eq_getElem hi, e]) (List.getElem?_eq_getElem (by omega)))
theorem RowC.block {N : Option Nat} {B g cap m : Nat} {w : World} {vs : List Val} {cs : List (List Value)} (h : RowC N B w (.slice (some ⟨g, 0, none⟩) m cap) vs cs) : B ≤ g ∧ m = vs.length ∧ m ≤ cap ∧ ∃ cur : Array Value, w.heap[g]? = some (.cells cur 29 (0, 0)) ∧ cur.size = cap * 8 ∧ cur.toList.take (m * 8) = cs.flatten := by
 obtain ⟨hl, ⟨h1, h2⟩, hh⟩ := h
 rcases h2 with ⟨h2, -⟩ | ⟨g', cap', cur, h2, hg, hb, hc, hm, hz, ht⟩
 · cases h2
 · injection h2 with e1 e2 e3
   injection e1 with e1
   injection e1 with e1 _ _
   subst e1; subst e3
   exact ⟨hg, e2, by omega, cur, hb, hz, by rw [e2]; exact ht⟩
theorem RowC.fill {N : Option Nat} {B g cap m : Nat} {w : World} {vs : List Val} {cs : List (List Value)} {z0 z : Val} {c0 : List Value} {a b c d e f x y : Value}
   (h : RowC N B w (.slice (some ⟨g, 0, none⟩) (m + 1) cap) (vs ++ [z0]) (cs ++ [c0])) (hm : vs.length = m)
   (hz : HoldP (fun q => B ≤ q ∧ (Value.slice (some ⟨g, 0, none⟩) (m + 1) cap).ownBlock ≠ some q ∧ N ≠ some q) w [a, b, c, d, e, f, x, y] z) :
   RowC N B (put8 w g (m * 8) a b c d e f x y) (.slice (some ⟨g, 0, none⟩) (m + 1) cap) (vs ++ [z]) (cs ++ [[a, b, c, d, e, f, x, y]]) := by
 have h8 := h.eights
 obtain ⟨hB, -, hmc, cur, hb, hcz, htk⟩ := h.block
 obtain ⟨hl, hown, hh⟩ := h
 obtain ⟨o1, o2⟩ := hown
 have hcl : cs.length = m := by simp at hl; omega
 have h8c : ∀ x ∈ cs, x.length = 8 := fun x hx => h8 x (by simp [hx])
 have h80 : c0.length = 8 := h8 c0 (by simp)
 have hfl := flat_len h8c
 obtain ⟨arr', hz', hb'⟩ := put8_own hb a b c d e f x y (o := m * 8)
 have hcap : (m + 1) * 8 ≤ cap * 8 := by omega
 have hmax : cap ≤ maxLen := by
   rcases o2 with ⟨h2, -⟩ | ⟨g', cap', cur', h2, hg', hb2, hc2, hm2, -⟩
   · cases h2
   · injection h2 with e1 e2 e3
     subst e3
     exact hm2
 have hat := put8_at hb (o := m * 8) (by omega) a b c d e f x y
 have htake : arr'.toList.take ((m + 1) * 8) = (cs ++ [[a, b, c, d, e, f, x, y]]).flatten := by
   apply List.ext_getElem?
   intro i
   rw [List.flatten_append, List.flatten_singleton, List.getElem?_take]
   by_cases hi : i < (m + 1) * 8
   · rw [if_pos hi]
     have e1 : arr'.toList[i]? = (put8 w g (m * 8) a b c d e f x y).cell? ⟨g, i, none⟩ := by rw [cell_of hb', Array.getElem?_toList]
     rw [e1]
     by_cases hi2 : i < m * 8
     · rw [put8_cell (.inl hi2), cell_of hb, List.getElem?_append_left (by omega)]
       have e2 : (cur.toList.take ((m + 1) * 8))[i]? = (cs ++ [c0]).flatten[i]? := by rw [htk]
       rw [List.getElem?_take, if_pos hi, List.flatten_append, List.getElem?_append_left (by omega), Array.getElem?_toList] at e2
       exact e2
     · have h2 := hat.2 (i - m * 8) (by omega)
       rw [show m * 8 + (i - m * 8) = i by omega] at h2
       rw [h2, List.getElem?_append_right (by omega), hfl, hcl]
   · rw [if_neg hi, List.getElem?_eq_none]
     rw [List.length_append, hfl, hcl]
     simp
     omega
 have keep : ∀ {c3 : List Value} {v3 : Val}, HoldP (fun q => B ≤ q ∧ (Value.slice (some ⟨g, 0, none⟩) (m + 1) cap).ownBlock ≠ some q ∧ N ≠ some q) w c3 v3 → HoldP (fun q => B ≤ q ∧ (Value.slice (some ⟨g, 0, none⟩) (m + 1) cap).ownBlock ≠ some q ∧ N ≠ some q) (put8 w g (m * 8) a b c d e f x y) c3 v3 := fun {c3 v3} hc =>
   HoldP.keep (by rw [put8_size]; exact Nat.le_refl _) (fun q hq _ => put8_block (fun e => hq.2.1 (by rw [e]; rfl)) _ _ _ _ _ _ _ _) v3 hc
 refine ⟨by simp; omega, ⟨?_, .inr ⟨g, cap, arr', by simp [hm], hB, hb', ?_, hmax, by omega, ?_⟩⟩, fun i c2 v2 h1 h2 => ?_⟩
 · rw [← htake, List.length_take, Array.length_toList, hz', hcz]
   simp
   omega
 · simp
   omega
 · rw [show (vs ++ [z]).length = m + 1 by simp [hm]]
   exact htake
 · by_cases hi : i < cs.length
   · rw [List.getElem?_append_left hi] at h1
     rw [List.getElem?_append_left (by omega)] at h2
     exact keep (hh i c2 v2 (by rw [List.getElem?_append_left hi]; exact h1) (by rw [List.getElem?_append_left (by omega)]; exact h2))
   · have hi' : i = cs.length := by
       have := (List.getElem?_eq_some_iff.1 h1).1
       simp at this
       omega
     subst hi'
     rw [List.getElem?_append_right (Nat.le_refl _)] at h1
     rw [List.getElem?_append_right (by omega)] at h2
     rw [Nat.sub_self] at h1
     rw [show cs.length - vs.length = 0 by omega] at h2
     simp at h1 h2
     subst h1; subst h2
     exact keep hz
theorem step_push4 {ops : Array Oper} {o : Oper} {a : Act} {w : World} {K : Act → World → Prop} {Q : Exit → Act → World → Prop} {E : Prop} (hgd : o.guard = none) (s x : Operand)
   (ho : o.op = .call { callee := .builtin .append, args := #[s, x], argTypes := #[27, 27] }) {M : Option Nat} (B S : Nat) {u : Value} {vs : List Val} {cs : List (List Value)} {v : Val} {c : List Value} {N cap m : Nat} (hm : vs.length = m) (hs : a.eval s = u) (hx : a.eval x = .slice (some ⟨N, 0, none⟩) 1 cap)
   (hN : ∀ j, j < 8 → w.cell? ⟨N, j, none⟩ = c[j]?) (h : RowC M B w u vs cs) (hv : HoldP (S ≤ ·) w c v) (hB : B ≤ S) (hS : ∀ g, u.ownBlock = some g → g < S) (hM : ∀ g, M = some g → g < S) (hn : m < 1000000) (hbw : B ≤ w.heap.size)
   (hK : ∀ g cap' w', RowC M B w' (.slice (some ⟨g, 0, none⟩) (m + 1) cap') (vs ++ [v]) (cs ++ [c]) → w.grownBy w' u.ownBlock → (u.ownBlock = some g ∨ g = w.heap.size) → K (a.put o.dst (.slice (some ⟨g, 0, none⟩) (m + 1) cap')) w') :
   if Region.wanted o (yielded ops a.tmps) = true then Oper.wp Tryz.prog o a w K Q else E := by
 subst hm
 obtain ⟨i0, hi, hz0, hz1, hz2⟩ := info_parts infoValue
 have hc8 := holdP_len hv
 refine step_append_lies w hgd s x 27 ho B 29 i0 zeroV 8 112 Tryz.underlying27 hi hz0 hz1 hz2 rfl (by decide) u vs.length cs.flatten hs h.2.1 ⟨N, 0, none⟩ 1 cap c hx (by omega) ?_ (holdP_one hv) (by decide) (by unfold maxLen; omega) (by omega) hbw w.heap.size rfl ?_
 · intro j y hy
   rw [addr_at, hN j (by have := (List.getElem?_eq_some_iff.1 hy).1; omega), hy]
 · intro g cap' w' h2 h3 h4 _
   exact hK g cap' w' (h.push hv hB hS hM h2 h3 rfl h4) h3 h4
end Go.Proofs.YtlfbnfphocpgeaaGreatDoor.Tre
namespace Go.Proofs.YtlfbnfphocpgeaaGreatDoor.Num
def tab : List Nat := [0, 0, 0, 0, 0, 0, 0,  0, 3, 4, 2, 0, 0, 0,  0, 3, 4, 0, 0, 0, 0,  0, 0, 0, 0, 0, 5, 7,  0, 4, 4, 0, 0, 5, 7,  0, 6, 6, 0, 0, 0, 0,  0, 6, 6, 0, 0, 0, 7,  0, 9, 9, 8, 8, 0, 0,  0, 9, 9, 0, 0, 0, 0,  0, 9, 9, 0, 0, 0, 0]
def stp (s c : Nat) : Nat := tab.getD (s * 7 + c) 0
def sg (x : Nat) : Nat := if x = 48 then 1 else if 49 ≤ x ∧ x ≤ 57 then 2 else if x = 45 then 3 else if x = 43 then 4 else if x = 46 then 5 else if x = 101 ∨ x = 69 then 6 else 0
theorem sg_lt (x : Nat) : sg x < 7 := by unfold sg; (repeat' split) <;> omega
def fin (s : Nat) : Bool := s == 3 || s == 4 || s == 6 || s == 9
theorem stp_lt {s c : Nat} (hs : s < 10) (hc : c < 7) : stp s c < 10 := by
 have : ∀ s : Fin 10, ∀ c : Fin 7, stp s.1 c.1 < 10 := by decide
 exact this ⟨s, hs⟩ ⟨c, hc⟩
def dfa : Nat → List UInt8 → Nat → Nat → Nat
 | _, [], _, L => L
 | s, b :: r, i, L => if stp s (sg b.toNat) = 0 then L else dfa (stp s (sg b.toNat)) r (i + 1) (if fin (stp s (sg b.toNat)) then i + 1 else L)
theorem dfa_at {s : Nat} (h0 : stp s 0 = 0) (l : List UInt8) (i L : Nat) :
   dfa s (l.drop i) i L = if stp s (sg (nb l i)) = 0 then L else dfa (stp s (sg (nb l i))) (l.drop (i + 1)) (i + 1) (if fin (stp s (sg (nb l i))) then i + 1 else L) := by
 by_cases hl : i < l.length
 · rw [List.drop_eq_getElem_cons hl, dfa]
   have : nb l i = l[i].toNat := by
     unfold nb
     rw [List.getD_eq_getElem?_getD, List.getElem?_eq_getElem hl]
     rfl
   rw [this]
 · rw [List.drop_eq_nil_of_le (by omega), nb_past (by omega)]
   have : sg 0 = 0 := rfl
   rw [this, if_pos h0]
   rfl
theorem sg_dig {l : List UInt8} {i : Nat} (h : DigAt l i) : sg (nb l i) = 1 ∨ sg (nb l i) = 2 := by
 unfold DigAt at h
 unfold sg
 by_cases c : nb l i = 48
 · rw [if_pos c]; exact .inl rfl
 · rw [if_neg c, if_pos (by omega)]; exact .inr rfl
theorem sg_not {l : List UInt8} {i : Nat} (h : ¬ DigAt l i) : sg (nb l i) ≠ 1 ∧ sg (nb l i) ≠ 2 ∧ (sg (nb l i) = 3 ↔ nb l i = 45) ∧ (sg (nb l i) = 4 ↔ nb l i = 43) ∧ (sg (nb l i) = 5 ↔ nb l i = 46) ∧ (sg (nb l i) = 6 ↔ (nb l i = 101 ∨ nb l i = 69)) := by
 unfold DigAt at h
 unfold sg
 generalize nb l i = x at *
 rw [if_neg (by omega), if_neg (by omega)]
 by_cases c1 : x = 45
 · subst c1; simp
 by_cases c2 : x = 43
 · subst c2; simp
 by_cases c3 : x = 46
 · subst c3; simp
 by_cases c4 : x = 101 ∨ x = 69
 · simp [c1, c2, c3, c4]
 · simp [c1, c2, c3, c4]
theorem d9 (l : List UInt8) : ∀ (k i : Nat), l.length - i = k → dfa 9 (l.drop i) i i = run l i := by
 intro k
 induction k using Nat.strongRecOn with
 | ind k ih =>
   intro i hk
   rw [dfa_at rfl]
   by_cases h : DigAt l i
   · have hl := digAt_lt h
     rw [run_on h]
     have := ih (l.length - (i + 1)) (by omega) (i + 1) rfl
     rcases sg_dig h with e | e <;> rw [e] <;> exact this
   · rw [run_stop h]
     obtain ⟨a, b, _⟩ := sg_not h
     have := sg_lt (nb l i)
     generalize sg (nb l i) = c at *
     have : c = 0 ∨ c = 3 ∨ c = 4 ∨ c = 5 ∨ c = 6 := by omega
     rcases this with rfl | rfl | rfl | rfl | rfl <;> rfl
theorem d8 (l : List UInt8) (i L : Nat) : dfa 8 (l.drop i) i L = if DigAt l i then run l i else L := by
 rw [dfa_at rfl]
 by_cases h : DigAt l i
 · rw [if_pos h, run_on h]
   have := d9 l _ (i + 1) rfl
   rcases sg_dig h with e | e <;> rw [e] <;> exact this
 · rw [if_neg h]
   obtain ⟨a, b, _⟩ := sg_not h
   have := sg_lt (nb l i)
   generalize sg (nb l i) = c at *
   have : c = 0 ∨ c = 3 ∨ c = 4 ∨ c = 5 ∨ c = 6 := by omega
   rcases this with rfl | rfl | rfl | rfl | rfl <;> rfl
theorem d7 (l : List UInt8) (i L : Nat) : dfa 7 (l.drop i) i L = if DigAt l (signEnd l i) then run l (signEnd l i) else L := by
 rw [dfa_at rfl]
 by_cases h : DigAt l i
 · have hs : signEnd l i = i := by
     unfold signEnd
     unfold DigAt at h
     rw [if_neg (by omega)]
   rw [hs, if_pos h, run_on h]
   have := d9 l _ (i + 1) rfl
   rcases sg_dig h with e | e <;> rw [e] <;> exact this
 · obtain ⟨a, b, e3, e4, _⟩ := sg_not h
   by_cases c3 : nb l i = 45
   · have hs : signEnd l i = i + 1 := by unfold signEnd; rw [if_pos (.inr c3)]
     rw [e3.2 c3, hs]
     exact d8 l (i + 1) L
   by_cases c4 : nb l i = 43
   · have hs : signEnd l i = i + 1 := by unfold signEnd; rw [if_pos (.inl c4)]
     rw [e4.2 c4, hs]
     exact d8 l (i + 1) L
   · have hs : signEnd l i = i := by unfold signEnd; rw [if_neg (fun e => e.elim c4 c3)]
     rw [hs, if_neg h]
     have n3 : sg (nb l i) ≠ 3 := fun e => c3 (e3.1 e)
     have n4 : sg (nb l i) ≠ 4 := fun e => c4 (e4.1 e)
     have := sg_lt (nb l i)
     clear e3 e4
     generalize sg (nb l i) = c at *
     have : c = 0 ∨ c = 5 ∨ c = 6 := by omega
     rcases this with rfl | rfl | rfl <;> rfl
theorem d_exp (l : List UInt8) (i : Nat) (h : ¬ DigAt l i) : (if sg (nb l i) = 6 then dfa 7 (l.drop (i + 1)) (i + 1) i else i) = expEnd l i := by
 obtain ⟨_, _, _, _, _, e6⟩ := sg_not h
 unfold expEnd
 by_cases c : nb l i = 101 ∨ nb l i = 69
 · rw [if_pos (e6.2 c), d7]
   by_cases hd : DigAt l (signEnd l (i + 1))
   · rw [if_pos hd, if_pos ⟨c, hd⟩]
   · rw [if_neg hd, if_neg (fun e => hd e.2)]
 · rw [if_neg (fun e => c (e6.1 e)), if_neg (fun e => c e.1)]
theorem expEnd_dig {l : List UInt8} {i : Nat} (h : DigAt l i) : expEnd l i = i := by
 unfold DigAt at h
 unfold expEnd
 rw [if_neg (by omega)]
theorem fracEnd_dig {l : List UInt8} {i : Nat} (h : DigAt l i) : fracEnd l i = i := by
 unfold DigAt at h
 unfold fracEnd
 rw [if_neg (by omega)]
theorem d6 (l : List UInt8) : ∀ (k i : Nat), l.length - i = k → dfa 6 (l.drop i) i i = expEnd l (run l i) := by
 intro k
 induction k using Nat.strongRecOn with
 | ind k ih =>
   intro i hk
   rw [dfa_at rfl]
   by_cases h : DigAt l i
   · have hl := digAt_lt h
     rw [run_on h]
     have := ih (l.length - (i + 1)) (by omega) (i + 1) rfl
     rcases sg_dig h with e | e <;> rw [e] <;> exact this
   · rw [run_stop h, ← d_exp l i h]
     obtain ⟨a, b, _⟩ := sg_not h
     have := sg_lt (nb l i)
     generalize sg (nb l i) = c at *
     have : c = 0 ∨ c = 3 ∨ c = 4 ∨ c = 5 ∨ c = 6 := by omega
     rcases this with rfl | rfl | rfl | rfl | rfl <;> rfl
theorem d5 (l : List UInt8) (i L : Nat) : dfa 5 (l.drop i) i L = if DigAt l i then expEnd l (run l i) else L := by
 rw [dfa_at rfl]
 by_cases h : DigAt l i
 · rw [if_pos h, run_on h]
   have := d6 l _ (i + 1) rfl
   rcases sg_dig h with e | e <;> rw [e] <;> exact this
 · rw [if_neg h]
   obtain ⟨a, b, _⟩ := sg_not h
   have := sg_lt (nb l i)
   generalize sg (nb l i) = c at *
   have : c = 0 ∨ c = 3 ∨ c = 4 ∨ c = 5 ∨ c = 6 := by omega
   rcases this with rfl | rfl | rfl | rfl | rfl <;> rfl
theorem d_frac (l : List UInt8) (i : Nat) (h : ¬ DigAt l i) : (if sg (nb l i) = 5 then dfa 5 (l.drop (i + 1)) (i + 1) i else if sg (nb l i) = 6 then dfa 7 (l.drop (i + 1)) (i + 1) i else i) = expEnd l (fracEnd l i) := by
 obtain ⟨_, _, _, _, e5, _⟩ := sg_not h
 by_cases c : nb l i = 46
 · rw [if_pos (e5.2 c), d5]
   unfold fracEnd
   by_cases hd : DigAt l (i + 1)
   · rw [if_pos hd, if_pos ⟨c, hd⟩]
   · rw [if_neg hd, if_neg (fun e => hd e.2)]
     unfold expEnd
     rw [if_neg (by omega)]
 · have hf : fracEnd l i = i := by unfold fracEnd; rw [if_neg (fun e => c e.1)]
   rw [if_neg (fun e => c (e5.1 e)), hf]
   exact d_exp l i h
theorem d3 (l : List UInt8) (i : Nat) : dfa 3 (l.drop i) i i = expEnd l (fracEnd l i) := by
 rw [dfa_at rfl]
 by_cases h : DigAt l i
 · rw [fracEnd_dig h, expEnd_dig h]
   rcases sg_dig h with e | e <;> rw [e] <;> rfl
 · rw [← d_frac l i h]
   obtain ⟨a, b, _⟩ := sg_not h
   have := sg_lt (nb l i)
   generalize sg (nb l i) = c at *
   have : c = 0 ∨ c = 3 ∨ c = 4 ∨ c = 5 ∨ c = 6 := by omega
   rcases this with rfl | rfl | rfl | rfl | rfl <;> rfl
theorem d4 (l : List UInt8) : ∀ (k i : Nat), l.length - i = k → dfa 4 (l.drop i) i i = expEnd l (fracEnd l (run l i)) := by
 intro k
 induction k using Nat.strongRecOn with
 | ind k ih =>
   intro i hk
   rw [dfa_at rfl]
   by_cases h : DigAt l i
   · have hl := digAt_lt h
     rw [run_on h]
     have := ih (l.length - (i + 1)) (by omega) (i + 1) rfl
     rcases sg_dig h with e | e <;> rw [e] <;> exact this
   · rw [run_stop h, ← d_frac l i h]
     obtain ⟨a, b, _⟩ := sg_not h
     have := sg_lt (nb l i)
     generalize sg (nb l i) = c at *
     have : c = 0 ∨ c = 3 ∨ c = 4 ∨ c = 5 ∨ c = 6 := by omega
     rcases this with rfl | rfl | rfl | rfl | rfl <;> rfl
theorem d_head (l : List UInt8) (i : Nat) (h : DigAt l i) : dfa (stp 1 (sg (nb l i))) (l.drop (i + 1)) (i + 1) (i + 1) = expEnd l (fracEnd l (intEnd l i)) ∧ (stp 1 (sg (nb l i)) = 3 ∨ stp 1 (sg (nb l i)) = 4) := by
 unfold intEnd
 by_cases c : nb l i = 48
 · rw [if_pos c, c]
   exact ⟨d3 l (i + 1), .inl rfl⟩
 · have e : sg (nb l i) = 2 := by
     unfold DigAt at h
     unfold sg
     rw [if_neg c, if_pos (by omega)]
   rw [if_neg c, e, run_on h]
   exact ⟨d4 l _ (i + 1) rfl, .inr rfl⟩
theorem dfa_scan (l : List UInt8) : dfa 1 l 0 0 = scan l := by
 have h0 := dfa_at (s := 1) rfl l 0 0
 rw [List.drop_zero] at h0
 rw [h0]
 unfold scan neg0
 by_cases h : DigAt l 0
 · have c : nb l 0 ≠ 45 := by unfold DigAt at h; omega
   obtain ⟨e, e2⟩ := d_head l 0 h
   rw [if_neg c, if_pos h, ← e]
   rcases e2 with e2 | e2 <;> rw [e2] <;> rfl
 · obtain ⟨a, b, e3, _⟩ := sg_not h
   by_cases c : nb l 0 = 45
   · rw [if_pos c, e3.2 c]
     show dfa 2 (l.drop 1) 1 0 = _
     rw [dfa_at rfl]
     by_cases h1 : DigAt l 1
     · obtain ⟨e, e2⟩ := d_head l 1 h1
       rw [if_pos h1, ← e]
       have e4 : stp 2 (sg (nb l 1)) = stp 1 (sg (nb l 1)) := by rcases sg_dig h1 with e | e <;> rw [e] <;> rfl
       rw [e4]
       rcases e2 with e2 | e2 <;> rw [e2] <;> rfl
     · rw [if_neg h1]
       obtain ⟨a, b, _⟩ := sg_not h1
       have := sg_lt (nb l 1)
       generalize sg (nb l 1) = c at *
       have : c = 0 ∨ c = 3 ∨ c = 4 ∨ c = 5 ∨ c = 6 := by omega
       rcases this with rfl | rfl | rfl | rfl | rfl <;> rfl
   · rw [if_neg c, if_neg h]
     have n3 : sg (nb l 0) ≠ 3 := fun e => c (e3.1 e)
     have := sg_lt (nb l 0)
     clear e3
     generalize sg (nb l 0) = c at *
     have : c = 0 ∨ c = 4 ∨ c = 5 ∨ c = 6 := by omega
     rcases this with rfl | rfl | rfl | rfl <;> rfl
theorem take_run {l : List UInt8} : (∀ c ∈ l.take (run l 0), dg c = true) ∧ l.take (run l 0) = l.takeWhile dg := by
 have e : l.take (run l 0) = l.takeWhile dg := by
   unfold run
   rw [List.drop_zero, Nat.zero_add]
   exact (List.prefix_iff_eq_take.1 (List.takeWhile_prefix dg)).symm
 exact ⟨fun c hc => by rw [e] at hc; exact List.all_eq_true.1 List.all_takeWhile c hc, e⟩
theorem digAt_run {l : List UInt8} (h : DigAt l 0) : 0 < run l 0 := by rw [run_on h]; exact run_ge l 1
theorem parts_of {l : List UInt8} (h : scan l = l.length) (h0 : l ≠ []) : ∃ n I F x, Parts I F x ∧ l = text n I F x := by
 obtain ⟨n, M, hM⟩ : ∃ n M, neg0 l = (negT n).length ∧ l = negT n ++ M := by
   unfold neg0
   by_cases c : nb l 0 = 45
   · obtain ⟨b, r, rfl⟩ := List.exists_cons_of_ne_nil h0
     refine ⟨true, r, by rw [if_pos c]; rfl, ?_⟩
     rw [nb_zero] at c
     rw [show b = 45 from UInt8.toNat_inj.1 c]
     rfl
   · exact ⟨false, l, by rw [if_neg c]; rfl, rfl⟩
 obtain ⟨hn, rfl⟩ := hM
 have hd : DigAt M 0 := by
   unfold scan at h
   rw [hn] at h
   split at h
   · rename_i hh
     exact (digAt_app (negT n) M 0).1 (by rw [Nat.add_zero]; exact hh)
   · exact absurd (List.length_eq_zero_iff.1 h.symm) h0
 have hs : expEnd M (fracEnd M (intEnd M 0)) = M.length := by
   unfold scan at h
   have hd' := (digAt_app (negT n) M 0).2 hd
   rw [Nat.add_zero] at hd'
   rw [hn, if_pos hd'] at h
   have e1 := intEnd_app (negT n) M 0
   rw [Nat.add_zero] at e1
   rw [e1, fracEnd_app, expEnd_app, List.length_append] at h
   omega
 clear h hn h0
 obtain ⟨I, R, rfl, hI0, hI, hh, hie⟩ : ∃ I R, M = I ++ R ∧ I ≠ [] ∧ (∀ c ∈ I, dg c = true) ∧ (I = [48] ∨ I.head? ≠ some 48) ∧ intEnd M 0 = I.length := by
   obtain ⟨b, r, rfl⟩ := List.exists_cons_of_ne_nil (show M ≠ [] by rintro rfl; revert hd; decide)
   unfold intEnd
   by_cases c : nb (b :: r) 0 = 48
   · rw [nb_zero] at c
     obtain rfl : b = 48 := UInt8.toNat_inj.1 c
     exact ⟨[48], r, rfl, by simp, by decide, .inl rfl, by rw [nb_zero]; rfl⟩
   · obtain ⟨t1, t2⟩ := take_run (l := b :: r)
     have hr := digAt_run hd
     refine ⟨(b :: r).take (run (b :: r) 0), (b :: r).drop (run (b :: r) 0), (List.take_append_drop _ _).symm, ?_, t1, .inr ?_, ?_⟩
     · intro e
       have := congrArg List.length e
       rw [List.length_take, List.length_cons, List.length_nil] at this
       omega
     · rw [List.head?_take, if_neg (by omega)]
       intro e
       rw [List.head?_cons] at e
       injection e with e
       subst e
       exact c rfl
     · rw [if_neg c, List.length_take]
       have := run_le (l := b :: r) (i := 0) (by simp)
       omega
 rw [hie] at hs
 have f1 := fracEnd_app I R 0
 rw [Nat.add_zero] at f1
 rw [f1, expEnd_app, List.length_append] at hs
 have hs : expEnd R (fracEnd R 0) = R.length := by omega
 clear f1 hie hd
 obtain ⟨F, Q, rfl, hF, hfe⟩ : ∃ F Q, R = fracT F ++ Q ∧ (∀ c ∈ F, dg c = true) ∧ fracEnd R 0 = (fracT F).length := by
   unfold fracEnd
   by_cases c : nb R 0 = 46 ∧ DigAt R (0 + 1)
   · obtain ⟨b, r, rfl⟩ := List.exists_cons_of_ne_nil (show R ≠ [] by rintro rfl; have := c.1; rw [nb_nil] at this; omega)
     have cb := c.1
     rw [nb_zero] at cb
     obtain rfl : b = 46 := UInt8.toNat_inj.1 cb
     have hd : DigAt r 0 := (digAt_app [46] r 0).1 c.2
     obtain ⟨t1, t2⟩ := take_run (l := r)
     have hr := digAt_run hd
     have hn : r.take (run r 0) ≠ [] := by
       intro e
       have hlt := digAt_lt hd
       have := congrArg List.length e
       rw [List.length_take, List.length_nil] at this
       omega
     refine ⟨r.take (run r 0), r.drop (run r 0), ?_, t1, ?_⟩
     · unfold fracT
       rw [if_neg hn, List.cons_append, List.take_append_drop]
     · rw [if_pos c]
       have e := run_app [46] r 0
       unfold fracT
       rw [if_neg hn, List.length_cons, List.length_take]
       have := run_le (l := r) (i := 0) (by simp)
       have e' : run (46 :: r) (0 + 1) = 1 + run r 0 := e
       rw [e']
       omega
   · exact ⟨[], R, rfl, by simp, by rw [if_neg c]; rfl⟩
 rw [hfe] at hs
 have f1 := expEnd_app (fracT F) Q 0
 rw [Nat.add_zero] at f1
 rw [f1, List.length_append] at hs
 have hs : expEnd Q 0 = Q.length := by omega
 clear f1 hfe
 obtain ⟨x, rfl, hx⟩ : ∃ x, Q = expT x ∧ ∀ m s E, x = some (m, s, E) → (m = 101 ∨ m = 69) ∧ (s = [] ∨ s = [43] ∨ s = [45]) ∧ E ≠ [] ∧ ∀ c ∈ E, dg c = true := by
   unfold expEnd at hs
   by_cases c : (nb Q 0 = 101 ∨ nb Q 0 = 69) ∧ DigAt Q (signEnd Q (0 + 1))
   · rw [if_pos c] at hs
     obtain ⟨b, r, rfl⟩ := List.exists_cons_of_ne_nil (show Q ≠ [] by rintro rfl; have := c.1; rw [nb_nil] at this; omega)
     obtain ⟨cb, cd⟩ := c
     have e1 : signEnd (b :: r) (0 + 1) = 1 + signEnd r 0 := signEnd_app [b] r 0
     rw [e1] at hs cd
     have e2 : run (b :: r) (1 + signEnd r 0) = 1 + run r (signEnd r 0) := run_app [b] r (signEnd r 0)
     have cd' : DigAt r (signEnd r 0) := (digAt_app [b] r (signEnd r 0)).1 cd
     rw [e2, List.length_cons] at hs
     obtain ⟨s, E, rfl, hs0, hse⟩ : ∃ s E, r = s ++ E ∧ (s = [] ∨ s = [43] ∨ s = [45]) ∧ signEnd r 0 = s.length := by
       unfold signEnd
       by_cases c : nb r 0 = 43 ∨ nb r 0 = 45
       · obtain ⟨y, r', rfl⟩ := List.exists_cons_of_ne_nil (show r ≠ [] by rintro rfl; rw [nb_nil] at c; omega)
         refine ⟨[y], r', rfl, ?_, by rw [if_pos c]; rfl⟩
         rw [nb_zero] at c
         rcases c with c | c
         · exact .inr (.inl (by rw [show y = 43 from UInt8.toNat_inj.1 c]))
         · exact .inr (.inr (by rw [show y = 45 from UInt8.toNat_inj.1 c]))
       · exact ⟨[], r, rfl, .inl rfl, by rw [if_neg c]; rfl⟩
     rw [hse] at hs cd'
     have e3 := run_app s E 0
     rw [Nat.add_zero] at e3
     have hE : DigAt E 0 := (digAt_app s E 0).1 cd'
     rw [e3, List.length_append] at hs
     have hr : run E 0 = E.length := by omega
     obtain ⟨t1, t2⟩ := take_run (l := E)
     rw [hr, List.take_length] at t1
     refine ⟨some (b, s, E), rfl, ?_⟩
     intro m s' E' e
     injection e with e
     injection e with e1 e2
     injection e2 with e2 e3
     subst e1; subst e2; subst e3
     rw [nb_zero] at cb
     refine ⟨?_, hs0, ?_, t1⟩
     · rcases cb with c | c
       · exact .inl (UInt8.toNat_inj.1 c)
       · exact .inr (UInt8.toNat_inj.1 c)
     · rintro rfl
       revert hE
       decide
   · rw [if_neg c] at hs
     obtain rfl : Q = [] := List.length_eq_zero_iff.1 hs.symm
     exact ⟨none, rfl, by simp⟩
 exact ⟨n, I, F, x, ⟨hI0, hI, hh, hF, hx⟩, rfl⟩
theorem intEnd_le' {l : List UInt8} {i : Nat} (h : DigAt l i) : intEnd l i ≤ l.length := by
 have := digAt_lt h
 unfold intEnd
 split
 · omega
 · exact run_le (by omega)
theorem fracEnd_le' {l : List UInt8} {i : Nat} (h : i ≤ l.length) : fracEnd l i ≤ l.length := by
 unfold fracEnd
 split
 · rename_i hh
   have := digAt_lt hh.2
   exact run_le (by omega)
 · exact h
theorem scan_le (l : List UInt8) : scan l ≤ l.length := by
 unfold scan
 split
 · rename_i hd
   unfold expEnd
   split
   · rename_i hh
     have := digAt_lt hh.2
     exact run_le (by omega)
   · exact fracEnd_le' (intEnd_le' hd)
 · omega
end Go.Proofs.YtlfbnfphocpgeaaGreatDoor.Num
