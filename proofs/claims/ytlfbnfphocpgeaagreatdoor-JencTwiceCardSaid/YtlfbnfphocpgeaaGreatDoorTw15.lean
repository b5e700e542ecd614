/- A part of what twice_holds leans on (its texts, put together). Nothing is claimed here. -/
import Derived.Test.YtlfbnfphocpgeaaGreatDoorTw5
namespace Go.Proofs.YtlfbnfphocpgeaaGreatDoor.Tre
open Go.RowKit Kit Txt
theorem setc_other {W : World} {g k i : Nat} (v : Value) (hk : k ≠ g) : (W.setCell ⟨g, i, none⟩ v).heap[k]? = W.heap[k]? := by
  show (W.heap.modify g _)[k]? = _
  rw [Array.getElem?_modify]
  simp [Ne.symm hk]
def put8 (W : World) (g o : Nat) (a b c d e f x y : Value) : World :=
  (((((((W.setCell ⟨g, o, none⟩ a).setCell ⟨g, o + 1, none⟩ b).setCell ⟨g, o + 2, none⟩ c).setCell ⟨g, o + 3, none⟩ d).setCell ⟨g, o + 4, none⟩ e).setCell ⟨g, o + 5, none⟩ f).setCell ⟨g, o + 6, none⟩ x).setCell ⟨g, o + 7, none⟩ y
theorem put8_block {W : World} {g k o : Nat} (hk : k ≠ g) (a b c d e f x y : Value) : (put8 W g o a b c d e f x y).heap[k]? = W.heap[k]? := by
  unfold put8
  simp only [setc_other _ hk]
theorem put8_size (W : World) (g o : Nat) (a b c d e f x y : Value) : (put8 W g o a b c d e f x y).heap.size = W.heap.size := by
  simp [put8, World.setCell, Array.size_modify]
theorem put8_own {W : World} {g o : Nat} {arr : Array Value} {t : TypeId} {fr : Nat × Nat} (h : W.heap[g]? = some (.cells arr t fr)) (a b c d e f x y : Value) : ∃ arr' : Array Value, arr'.size = arr.size ∧ (put8 W g o a b c d e f x y).heap[g]? = some (.cells arr' t fr) := by
  have := (set_of (set_of (set_of (set_of (set_of (set_of (set_of (set_of h o a) (o + 1) b) (o + 2) c) (o + 3) d) (o + 4) e) (o + 5) f) (o + 6) x) (o + 7) y)
  exact ⟨_, by simp, this⟩
theorem put8_cell {W : World} {g o i : Nat} (hi : i < o ∨ o + 8 ≤ i) (a b c d e f x y : Value) : (put8 W g o a b c d e f x y).cell? ⟨g, i, none⟩ = W.cell? ⟨g, i, none⟩ := by
  unfold put8
  have ne : ∀ k, k < 8 → (⟨g, o + k, none⟩ : Addr) ≠ ⟨g, i, none⟩ := fun k hk e => by
    injection e with _ e _
    omega
  rw [World.cell?_setCell_other _ _ _ _ (ne 7 (by omega)), World.cell?_setCell_other _ _ _ _ (ne 6 (by omega)), World.cell?_setCell_other _ _ _ _ (ne 5 (by omega)), World.cell?_setCell_other _ _ _ _ (ne 4 (by omega)), World.cell?_setCell_other _ _ _ _ (ne 3 (by omega)), World.cell?_setCell_other _ _ _ _ (ne 2 (by omega)), World.cell?_setCell_other _ _ _ _ (ne 1 (by omega)), World.cell?_setCell_other _ _ _ _ (show (⟨g, o, none⟩ : Addr) ≠ ⟨g, i, none⟩ from fun e => by injection e with _ e _; omega)]
theorem put8_at {W : World} {g o : Nat} {arr : Array Value} {t : TypeId} {fr : Nat × Nat} (h : W.heap[g]? = some (.cells arr t fr)) (ho : o + 8 ≤ arr.size) (a b c d e f x y : Value) : At8 (put8 W g o a b c d e f x y) g o [a, b, c, d, e, f, x, y] := by
  have h2 := (set_of (set_of (set_of (set_of (set_of (set_of (set_of (set_of h o a) (o + 1) b) (o + 2) c) (o + 3) d) (o + 4) e) (o + 5) f) (o + 6) x) (o + 7) y)
  refine ⟨rfl, fun j hj => ?_⟩
  have h3 := cell_of h2 (o + j)
  refine h3.trans ?_
  rcases j with _ | _ | _ | _ | _ | _ | _ | _ | j
  all_goals first | omega | skip
  all_goals
    simp only [Array.getElem?_setIfInBounds]
    simp
    omega
theorem put8_below {N : Nat} {w W : World} {g : Nat} (h : Below N w W) (hg : N ≤ g) (o : Nat) (a b c d e f x y : Value) : Below N w (put8 W g o a b c d e f x y) :=
  (((((((h.setCell (p := ⟨g, o, none⟩) hg a).setCell (p := ⟨g, o + 1, none⟩) hg b).setCell (p := ⟨g, o + 2, none⟩) hg c).setCell (p := ⟨g, o + 3, none⟩) hg d).setCell (p := ⟨g, o + 4, none⟩) hg e).setCell (p := ⟨g, o + 5, none⟩) hg f).setCell (p := ⟨g, o + 6, none⟩) hg x).setCell (p := ⟨g, o + 7, none⟩) hg y
theorem block8 {W : World} {g o : Nat} {arr : Array Value} {t : TypeId} {fr : Nat × Nat} (h : W.heap[g]? = some (.cells arr t fr)) (ho : o + 8 ≤ arr.size) : ∃ z0 z1 z2 z3 z4 z5 z6 z7 : Value, W.cell? ⟨g, o, none⟩ = some z0 ∧ W.cell? ⟨g, o + 1, none⟩ = some z1 ∧ W.cell? ⟨g, o + 2, none⟩ = some z2 ∧ W.cell? ⟨g, o + 3, none⟩ = some z3 ∧ W.cell? ⟨g, o + 4, none⟩ = some z4 ∧ W.cell? ⟨g, o + 5, none⟩ = some z5 ∧ W.cell? ⟨g, o + 6, none⟩ = some z6 ∧ W.cell? ⟨g, o + 7, none⟩ = some z7 := by
  refine ⟨arr[o], arr[o + 1], arr[o + 2], arr[o + 3], arr[o + 4], arr[o + 5], arr[o + 6], arr[o + 7], ?_⟩
  refine ⟨?_, ?_, ?_, ?_, ?_, ?_, ?_, ?_⟩
  all_goals rw [cell_of h]; exact Array.getElem?_eq_getElem _
end Go.Proofs.YtlfbnfphocpgeaaGreatDoor.Tre
namespace Go.Proofs.YtlfbnfphocpgeaaGreatDoor.Tre
open Go.RowKit Kit Txt
open Num (Dec zero)
theorem flat_len {cs : List (List Value)} (h : ∀ x ∈ cs, x.length = 8) : cs.flatten.length = cs.length * 8 := by
  induction cs with
  | nil => rfl
  | cons x r ih =>
    rw [List.flatten_cons, List.length_append, ih fun y hy => h y (List.mem_cons_of_mem _ hy), h x List.mem_cons_self, List.length_cons]
    omega
theorem RowC.eights {N : Option Nat} {B : Nat} {w : World} {u : Value} {vs : List Val} {cs : List (List Value)} (h : RowC N B w u vs cs) : ∀ x ∈ cs, x.length = 8 := fun x hx => by
  obtain ⟨hl, -, hh⟩ := h
  obtain ⟨i, hi, e⟩ := List.mem_iff_getElem.1 hx
  exact holdP_len (hh i x (vs[i]'(by omega)) (by rw [List.getElem?_eq_getElem hi, e]) (List.getElem?_eq_getElem (by omega)))
theorem RowC.block {N : Option Nat} {B g cap m : Nat} {w : World} {vs : List Val} {cs : List (List Value)} (h : RowC N B w (.slice (some ⟨g, 0, none⟩) m cap) vs cs) : B ≤ g ∧ m = vs.length ∧ m ≤ cap ∧ ∃ cur : Array Value, w.heap[g]? = some (.cells cur 29 (0, 0)) ∧ cur.size = cap * 8 ∧ cur.toList.take (m * 8) = cs.flatten := by
  obtain ⟨hl, ⟨h1, h2⟩, hh⟩ := h
  rcases h2 with ⟨h2, -⟩ | ⟨g', cap', cur, h2, hg, hb, hc, hm, hz, ht⟩
  · cases h2
  · injection h2 with e1 e2 e3
    injection e1 with e1
    injection e1 with e1 _ _
    subst e1; subst e3
    exact ⟨hg, e2, by omega, cur, hb, hz, by rw [e2]; exact ht⟩
theorem RowC.fill {N : Option Nat} {B g cap m : Nat} {w : World} {vs : List Val} {cs : List (List Value)} {z0 z : Val} {c0 : List Value} {a b c d e f x y : Value}
    (h : RowC N B w (.slice (some ⟨g, 0, none⟩) (m + 1) cap) (vs ++ [z0]) (cs ++ [c0])) (hm : vs.length = m)
    (hz : HoldP (fun q => B ≤ q ∧ (Value.slice (some ⟨g, 0, none⟩) (m + 1) cap).ownBlock ≠ some q ∧ N ≠ some q) w [a, b, c, d, e, f, x, y] z) :
    RowC N B (put8 w g (m * 8) a b c d e f x y) (.slice (some ⟨g, 0, none⟩) (m + 1) cap) (vs ++ [z]) (cs ++ [[a, b, c, d, e, f, x, y]]) := by
  have h8 := h.eights
  obtain ⟨hB, -, hmc, cur, hb, hcz, htk⟩ := h.block
  obtain ⟨hl, hown, hh⟩ := h
  obtain ⟨o1, o2⟩ := hown
  have hcl : cs.length = m := by simp at hl; omega
  have h8c : ∀ x ∈ cs, x.length = 8 := fun x hx => h8 x (by simp [hx])
  have h80 : c0.length = 8 := h8 c0 (by simp)
  have hfl := flat_len h8c
  obtain ⟨arr', hz', hb'⟩ := put8_own hb a b c d e f x y (o := m * 8)
  have hcap : (m + 1) * 8 ≤ cap * 8 := by omega
  have hmax : cap ≤ maxLen := by
    rcases o2 with ⟨h2, -⟩ | ⟨g', cap', cur', h2, hg', hb2, hc2, hm2, -⟩
    · cases h2
    · injection h2 with e1 e2 e3
      subst e3
      exact hm2
  have hat := put8_at hb (o := m * 8) (by omega) a b c d e f x y
  have htake : arr'.toList.take ((m + 1) * 8) = (cs ++ [[a, b, c, d, e, f, x, y]]).flatten := by
    apply List.ext_getElem?
    intro i
    rw [List.flatten_append, List.flatten_singleton, List.getElem?_take]
    by_cases hi : i < (m + 1) * 8
    · rw [if_pos hi]
      have e1 : arr'.toList[i]? = (put8 w g (m * 8) a b c d e f x y).cell? ⟨g, i, none⟩ := by rw [cell_of hb', Array.getElem?_toList]
      rw [e1]
      by_cases hi2 : i < m * 8
      · rw [put8_cell (.inl hi2), cell_of hb, List.getElem?_append_left (by omega)]
        have e2 : (cur.toList.take ((m + 1) * 8))[i]? = (cs ++ [c0]).flatten[i]? := by rw [htk]
        rw [List.getElem?_take, if_pos hi, List.flatten_append, List.getElem?_append_left (by omega), Array.getElem?_toList] at e2
        exact e2
      · have h2 := hat.2 (i - m * 8) (by omega)
        rw [show m * 8 + (i - m * 8) = i by omega] at h2
        rw [h2, List.getElem?_append_right (by omega), hfl, hcl]
    · rw [if_neg hi, List.getElem?_eq_none]
      rw [List.length_append, hfl, hcl]
      simp
      omega
  have keep : ∀ {c3 : List Value} {v3 : Val}, HoldP (fun q => B ≤ q ∧ (Value.slice (some ⟨g, 0, none⟩) (m + 1) cap).ownBlock ≠ some q ∧ N ≠ some q) w c3 v3 → HoldP (fun q => B ≤ q ∧ (Value.slice (some ⟨g, 0, none⟩) (m + 1) cap).ownBlock ≠ some q ∧ N ≠ some q) (put8 w g (m * 8) a b c d e f x y) c3 v3 := fun {c3 v3} hc =>
    HoldP.keep (by rw [put8_size]; exact Nat.le_refl _) (fun q hq _ => put8_block (fun e => hq.2.1 (by rw [e]; rfl)) _ _ _ _ _ _ _ _) v3 hc
  refine ⟨by simp; omega, ⟨?_, .inr ⟨g, cap, arr', by simp [hm], hB, hb', ?_, hmax, by omega, ?_⟩⟩, fun i c2 v2 h1 h2 => ?_⟩
  · rw [← htake, List.length_take, Array.length_toList, hz', hcz]
    simp
    omega
  · simp
    omega
  · rw [show (vs ++ [z]).length = m + 1 by simp [hm]]
    exact htake
  · by_cases hi : i < cs.length
    · rw [List.getElem?_append_left hi] at h1
      rw [List.getElem?_append_left (by omega)] at h2
      exact keep (hh i c2 v2 (by rw [List.getElem?_append_left hi]; exact h1) (by rw [List.getElem?_append_left (by omega)]; exact h2))
    · have hi' : i = cs.length := by
        have := (List.getElem?_eq_some_iff.1 h1).1
        simp at this
        omega
      subst hi'
      rw [List.getElem?_append_right (Nat.le_refl _)] at h1
      rw [List.getElem?_append_right (by omega)] at h2
      rw [Nat.sub_self] at h1
      rw [show cs.length - vs.length = 0 by omega] at h2
      simp at h1 h2
      subst h1; subst h2
      exact keep hz
theorem step_push4 {ops : Array Oper} {o : Oper} {a : Act} {w : World} {K : Act → World → Prop} {Q : Exit → Act → World → Prop} {E : Prop} (hgd : o.guard = none) (s x : Operand)
    (ho : o.op = .call { callee := .builtin .append, args := #[s, x], argTypes := #[27, 27] }) {M : Option Nat} (B S : Nat) {u : Value} {vs : List Val} {cs : List (List Value)} {v : Val} {c : List Value} {N cap m : Nat} (hm : vs.length = m) (hs : a.eval s = u) (hx : a.eval x = .slice (some ⟨N, 0, none⟩) 1 cap)
    (hN : ∀ j, j < 8 → w.cell? ⟨N, j, none⟩ = c[j]?) (h : RowC M B w u vs cs) (hv : HoldP (S ≤ ·) w c v) (hB : B ≤ S) (hS : ∀ g, u.ownBlock = some g → g < S) (hM : ∀ g, M = some g → g < S) (hn : m < 1000000) (hbw : B ≤ w.heap.size)
    (hK : ∀ g cap' w', RowC M B w' (.slice (some ⟨g, 0, none⟩) (m + 1) cap') (vs ++ [v]) (cs ++ [c]) → w.grownBy w' u.ownBlock → (u.ownBlock = some g ∨ g = w.heap.size) → K (a.put o.dst (.slice (some ⟨g, 0, none⟩) (m + 1) cap')) w') :
    if Region.wanted o (yielded ops a.tmps) = true then Oper.wp Tryz.prog o a w K Q else E := by
  subst hm
  obtain ⟨i0, hi, hz0, hz1, hz2⟩ := info_parts infoValue
  have hc8 := holdP_len hv
  refine step_append_lies w hgd s x 27 ho B 29 i0 zeroV 8 112 Tryz.underlying27 hi hz0 hz1 hz2 rfl (by decide) u vs.length cs.flatten hs h.2.1 ⟨N, 0, none⟩ 1 cap c hx (by omega) ?_ (holdP_one hv) (by decide) (by unfold maxLen; omega) (by omega) hbw w.heap.size rfl ?_
  · intro j y hy
    rw [addr_at, hN j (by have := (List.getElem?_eq_some_iff.1 hy).1; omega), hy]
  · intro g cap' w' h2 h3 h4 _
    exact hK g cap' w' (h.push hv hB hS hM h2 h3 rfl h4) h3 h4
end Go.Proofs.YtlfbnfphocpgeaaGreatDoor.Tre
namespace Go.Proofs.YtlfbnfphocpgeaaGreatDoor.Num
def digits (n : Nat) : List UInt8 := if n < 10 then [UInt8.ofNat (48 + n)] else digits (n / 10) ++ [UInt8.ofNat (48 + n % 10)]
termination_by n
decreasing_by omega
theorem digits_lo {n : Nat} (h : n < 10) : digits n = [UInt8.ofNat (48 + n)] := by rw [digits, if_pos h]
theorem digits_hi {n : Nat} (h : 10 ≤ n) : digits n = digits (n / 10) ++ [UInt8.ofNat (48 + n % 10)] := by rw [digits, if_neg (by omega)]
theorem ofNat_dig {x : Nat} (h : x < 10) : (UInt8.ofNat (48 + x)).toNat = 48 + x := by
  rw [UInt8.toNat_ofNat']
  omega
theorem digits_ne (n : Nat) : digits n ≠ [] := by
  by_cases h : n < 10
  · rw [digits_lo h]; simp
  · rw [digits_hi (by omega)]; simp
theorem digits_dg : ∀ (n : Nat), ∀ c ∈ digits n, dg c = true := by
  intro n
  induction n using Nat.strongRecOn with
  | ind n ih =>
    intro c hc
    by_cases h : n < 10
    · rw [digits_lo h, List.mem_singleton] at hc
      subst hc
      have := ofNat_dig h
      simp only [dg, decide_eq_true_eq]
      omega
    · rw [digits_hi (by omega)] at hc
      rcases List.mem_append.1 hc with hc | hc
      · exact ih (n / 10) (by omega) c hc
      · rw [List.mem_singleton] at hc
        subst hc
        have := ofNat_dig (x := n % 10) (by omega)
        simp only [dg, decide_eq_true_eq]
        omega
theorem valD_snoc (d : List UInt8) (c : UInt8) : valD (d ++ [c]) = valD d * 10 + (c.toNat - 48) := by simp [valD]
theorem valD_digits : ∀ (n : Nat), valD (digits n) = n := by
  intro n
  induction n using Nat.strongRecOn with
  | ind n ih =>
    by_cases h : n < 10
    · rw [digits_lo h]
      show 0 * 10 + ((UInt8.ofNat (48 + n)).toNat - 48) = n
      rw [ofNat_dig h]
      omega
    · rw [digits_hi (by omega), valD_snoc, ih (n / 10) (by omega), ofNat_dig (by omega)]
      omega
theorem digits_len : ∀ (n k : Nat), n < 10 ^ k → 0 < k → (digits n).length ≤ k := by
  intro n
  induction n using Nat.strongRecOn with
  | ind n ih =>
    intro k hk h0
    by_cases h : n < 10
    · rw [digits_lo h]; simp; omega
    · rw [digits_hi (by omega), List.length_append]
      have h1 : 10 ^ k = 10 ^ (k - 1) * 10 := by rw [← Nat.pow_succ]; congr 1; omega
      have h2 : 0 < k - 1 := by
        by_cases e : k = 1
        · subst e; omega
        · omega
      have := ih (n / 10) (by omega) (k - 1) (by omega) h2
      simp
      omega
def noughts (n : Nat) : List UInt8 := List.replicate n 48
theorem noughts_dg (n : Nat) : ∀ c ∈ noughts n, dg c = true := by
  intro c hc
  rw [List.eq_of_mem_replicate hc]
  decide
theorem noughts_len (n : Nat) : (noughts n).length = n := List.length_replicate
def print (n : Dec) : List UInt8 :=
  if ¬ Right n then []
  else if n.dig = [] then [48]
  else if 20 < n.exp then negT n.neg ++ (n.dig ++ (101 :: digits n.exp.toNat))
  else if n.exp < -20 then negT n.neg ++ (n.dig ++ (101 :: 45 :: digits (-n.exp).toNat))
  else if 0 ≤ n.exp then negT n.neg ++ (n.dig ++ noughts n.exp.toNat)
  else if -n.exp < n.dig.length then negT n.neg ++ (n.dig.take (n.dig.length - (-n.exp).toNat) ++ (46 :: n.dig.drop (n.dig.length - (-n.exp).toNat)))
  else negT n.neg ++ (48 :: 46 :: (noughts ((-n.exp).toNat - n.dig.length) ++ n.dig))
theorem dropZ_noughts (n : Nat) (D : List UInt8) : (noughts n ++ D).dropWhile z48 = D.dropWhile z48 := by
  induction n with
  | zero => rfl
  | succ n ih =>
    unfold noughts at *
    rw [List.replicate_succ, List.cons_append, List.dropWhile_cons, if_pos (by decide), ih]
theorem dropZ_head {D : List UInt8} (h : D.head? ≠ some 48) : D.dropWhile z48 = D := by
  match D, h with
  | [], _ => rfl
  | c :: D, h =>
    rw [List.dropWhile_cons, if_neg]
    simpa [z48] using h
theorem strip_noughts (n : Nat) (d : List UInt8) (e : Int) : strip (d ++ noughts n) e = strip d (e + n) := by
  induction n generalizing e with
  | zero => simp [noughts]
  | succ n ih =>
    have h1 : d ++ noughts (n + 1) = (d ++ noughts n) ++ [48] := by
      unfold noughts
      rw [List.replicate_succ', List.append_assoc]
    rw [h1, strip_on (by have := nb_app (d ++ noughts n) [48] 0; simp at this ⊢; rw [this]; rfl), List.dropLast_concat, ih]
    congr 1
    omega
theorem norm_noughts (neg : Bool) (n : Nat) (d : List UInt8) (e : Int) : norm neg (d ++ noughts n) e = norm neg d (e + n) := by
  unfold norm
  rw [strip_noughts]
theorem right_head {n : Dec} (h : Right n) (h0 : n.dig ≠ []) : n.dig.head? ≠ some 48 ∧ nb n.dig 0 ≠ 48 ∧ nb n.dig (n.dig.length - 1) ≠ 48 ∧ (∀ c ∈ n.dig, dg c = true) ∧ n.dig.length ≤ 1000 ∧ -10000 ≤ n.exp ∧ n.exp ≤ 10000 := by
  unfold Right at h
  rw [if_neg h0] at h
  refine ⟨?_, h.2.2.2.2.1, h.2.2.2.2.2, h.2.2.2.1, h.1, h.2.1, h.2.2.1⟩
  obtain ⟨c, r, e⟩ := List.exists_cons_of_ne_nil h0
  have h1 := h.2.2.2.2.1
  rw [e] at h1 ⊢
  intro e2
  simp at e2
  subst e2
  exact h1 rfl
theorem norm_right {n : Dec} (h : Right n) (h0 : n.dig ≠ []) : norm n.neg n.dig n.exp = (n, 0) := by
  have hh := right_head h h0
  unfold norm
  rw [strip_stop hh.2.2.1, if_neg h0, if_pos h]
theorem digits_val {x : Nat} (h : x ≤ 10000) : valD (digits x) < 1000000000 := by rw [valD_digits]; omega
theorem print_text {n : Dec} (h : Right n) : ∃ I F x, Parts I F x ∧ print n = text n.neg I F x ∧ (∀ m s E, x = some (m, s, E) → valD E < 1000000000) ∧ norm n.neg ((I ++ F).dropWhile z48) (expV x - F.length) = (n, 0) := by
  by_cases h0 : n.dig = []
  · have hz : n = zero := by
      have h1 := h
      unfold Right at h1
      rw [if_pos h0] at h1
      cases n
      simp_all [zero]
    subst hz
    refine ⟨[48], [], none, ⟨by simp, by decide, .inl rfl, by simp, by simp⟩, by decide, by simp, by decide⟩
  · obtain ⟨hh, hn0, hnl, hd, hlen, he0, he1⟩ := right_head h h0
    have hnr := norm_right h h0
    unfold print
    rw [if_neg (not_not_intro h), if_neg h0]
    by_cases c1 : 20 < n.exp
    · rw [if_pos c1]
      refine ⟨n.dig, [], some (101, [], digits n.exp.toNat), ⟨h0, hd, .inr hh, by simp, ?_⟩, ?_, ?_, ?_⟩
      · intro m s E e
        injection e with e
        injection e with e1 e2
        injection e2 with e2 e3
        subst e1; subst e2; subst e3
        exact ⟨.inl rfl, .inl rfl, digits_ne _, digits_dg _⟩
      · simp [text, fracT, expT]
      · intro m s E e
        injection e with e
        injection e with e1 e2
        injection e2 with e2 e3
        subst e3
        exact digits_val (by omega)
      · rw [List.append_nil, dropZ_head hh]
        simp only [expV, valD_digits, List.length_nil]
        rw [if_neg (by simp)]
        rw [show ((n.exp.toNat : Int) - (0 : Nat)) = n.exp by omega]
        exact hnr
    · rw [if_neg c1]
      by_cases c2 : n.exp < -20
      · rw [if_pos c2]
        refine ⟨n.dig, [], some (101, [45], digits (-n.exp).toNat), ⟨h0, hd, .inr hh, by simp, ?_⟩, ?_, ?_, ?_⟩
        · intro m s E e
          injection e with e
          injection e with e1 e2
          injection e2 with e2 e3
          subst e1; subst e2; subst e3
          exact ⟨.inl rfl, .inr (.inr rfl), digits_ne _, digits_dg _⟩
        · simp [text, fracT, expT]
        · intro m s E e
          injection e with e
          injection e with e1 e2
          injection e2 with e2 e3
          subst e3
          exact digits_val (by omega)
        · rw [List.append_nil, dropZ_head hh]
          simp only [expV, valD_digits, List.length_nil]
          simp only [if_true]
          rw [show (-((-n.exp).toNat : Int) - (0 : Nat)) = n.exp by omega]
          exact hnr
      · rw [if_neg c2]
        by_cases c3 : 0 ≤ n.exp
        · rw [if_pos c3]
          refine ⟨n.dig ++ noughts n.exp.toNat, [], none, ⟨by simp [h0], ?_, .inr ?_, by simp, by simp⟩, ?_, by simp, ?_⟩
          · intro c hc
            rcases List.mem_append.1 hc with hc | hc
            · exact hd c hc
            · exact noughts_dg _ c hc
          · obtain ⟨c, r, e⟩ := List.exists_cons_of_ne_nil h0
            rw [e] at hh ⊢
            simpa using hh
          · simp [text, fracT, expT]
          · have : (n.dig ++ noughts n.exp.toNat).dropWhile z48 = n.dig ++ noughts n.exp.toNat := dropZ_head (by
              obtain ⟨c, r, e⟩ := List.exists_cons_of_ne_nil h0
              rw [e] at hh ⊢
              simpa using hh)
            rw [List.append_nil, this, norm_noughts]
            simp only [expV, List.length_nil]
            rw [show ((0 : Int) - (0 : Nat) + (n.exp.toNat : Int)) = n.exp by omega]
            exact hnr
        · rw [if_neg c3]
          by_cases c4 : -n.exp < n.dig.length
          · rw [if_pos c4]
            obtain ⟨q, hq⟩ : ∃ q, n.dig.length - (-n.exp).toNat = q := ⟨_, rfl⟩
            rw [hq]
            have hF : n.dig.drop q ≠ [] := by
              intro e
              have := congrArg List.length e
              rw [List.length_drop] at this
              simp at this
              omega
            refine ⟨n.dig.take q, n.dig.drop q, none, ⟨?_, fun c hc => hd c (List.mem_of_mem_take hc), .inr ?_, fun c hc => hd c (List.mem_of_mem_drop hc), by simp⟩, ?_, by simp, ?_⟩
            · intro e
              have := congrArg List.length e
              rw [List.length_take, List.length_nil] at this
              omega
            · rw [List.head?_take, if_neg (by omega)]
              exact hh
            · simp [text, fracT, expT, hF]
            · rw [List.take_append_drop, dropZ_head hh, List.length_drop]
              simp only [expV]
              rw [show ((0 : Int) - ((n.dig.length - q : Nat) : Int)) = n.exp by omega]
              exact hnr
          · rw [if_neg c4]
            refine ⟨[48], noughts ((-n.exp).toNat - n.dig.length) ++ n.dig, none, ⟨by simp, by decide, .inl rfl, ?_, by simp⟩, ?_, by simp, ?_⟩
            · intro c hc
              rcases List.mem_append.1 hc with hc | hc
              · exact noughts_dg _ c hc
              · exact hd c hc
            · have : noughts ((-n.exp).toNat - n.dig.length) ++ n.dig ≠ [] := by simp [h0]
              simp [text, fracT, expT, this]
            · have e1 : [48] ++ (noughts ((-n.exp).toNat - n.dig.length) ++ n.dig) = noughts ((-n.exp).toNat - n.dig.length + 1) ++ n.dig := by simp [noughts, List.replicate_succ]
              rw [e1, dropZ_noughts, dropZ_head hh, List.length_append, noughts_len]
              simp only [expV]
              rw [show ((0 : Int) - (((-n.exp).toNat - n.dig.length + n.dig.length : Nat) : Int)) = n.exp by omega]
              exact hnr
theorem text_ne (n : Bool) {I F : List UInt8} {x : Option (UInt8 × List UInt8 × List UInt8)} (h : Parts I F x) : text n I F x ≠ [] := by
  intro e
  have := congrArg List.length e
  obtain ⟨c, I', rfl⟩ := List.exists_cons_of_ne_nil h.ne
  simp [text] at this
theorem parse_print {n : Dec} (h : Right n) : parse (print n) = (n, 0) ∧ scan (print n) = (print n).length ∧ print n ≠ [] := by
  obtain ⟨I, F, x, hp, e, hv, hn⟩ := print_text h
  rw [e]
  exact ⟨by rw [parse_text _ hp hv]; exact hn, scan_text _ hp, text_ne _ hp⟩
end Go.Proofs.YtlfbnfphocpgeaaGreatDoor.Num
