/- A part of what is_holds leans on (its texts, put together). Nothing is claimed here. -/
import Derived.Test.YtlfbnfphocpgeaaGreatDoorIs0
namespace Go.Proofs.YtlfbnfphocpgeaaGreatDoor.Tre
open Num (Dec zero)
inductive Val where
 | mk (kind : Int) (is : Bool) (num : Dec) (str : List UInt8) (keys : List (List UInt8)) (kids : List Val)
def Val.kind : Val → Int | ⟨k, _, _, _, _, _⟩ => k
def Val.is : Val → Bool | ⟨_, i, _, _, _, _⟩ => i
def Val.num : Val → Dec | ⟨_, _, n, _, _, _⟩ => n
def Val.str : Val → List UInt8 | ⟨_, _, _, s, _, _⟩ => s
def Val.keys : Val → List (List UInt8) | ⟨_, _, _, _, ks, _⟩ => ks
def Val.kids : Val → List Val | ⟨_, _, _, _, _, vs⟩ => vs
def none' : Val := ⟨0, false, zero, [], [], []⟩
mutual
def deep : Val → Nat
 | ⟨k, _, _, _, _, vs⟩ => (if k = 5 ∨ k = 6 then deeps vs else 0) + 1
def deeps : List Val → Nat
 | [] => 0
 | v :: r => max (deep v) (deeps r)
end
def Own (v : Val) : Prop :=
 1 ≤ v.kind ∧ v.kind ≤ 6 ∧ (v.kind ≠ 2 → v.is = false) ∧ (v.kind ≠ 3 → v.num = zero) ∧ (v.kind ≠ 4 → v.str = []) ∧ (v.kind < 5 → v.kids = []) ∧ (v.kind ≠ 6 → v.keys = []) ∧
   Num.Right v.num ∧ Utf.bad v.str = none ∧ (v.kind = 6 → v.keys.length = v.kids.length) ∧ (∀ k ∈ v.keys, Utf.bad k = none) ∧ v.keys.Nodup
mutual
def Whole : Val → Prop
 | ⟨k, i, n, s, ks, vs⟩ => Own ⟨k, i, n, s, ks, vs⟩ ∧ Wholes vs
def Wholes : List Val → Prop
 | [] => True
 | v :: r => Whole v ∧ Wholes r
end
def Right (v : Val) : Prop := deep v ≤ 64 ∧ Whole v
theorem deeps_le {vs : List Val} {d : Nat} : deeps vs ≤ d ↔ ∀ v ∈ vs, deep v ≤ d := by
 induction vs with
 | nil => simp [deeps]
 | cons v r ih =>
   rw [deeps, Nat.max_le, ih]
   simp
theorem wholes_iff {vs : List Val} : Wholes vs ↔ ∀ v ∈ vs, Whole v := by
 induction vs with
 | nil => simp [Wholes]
 | cons v r ih =>
   rw [Wholes, ih]
   simp
theorem whole_iff {v : Val} : Whole v ↔ Own v ∧ ∀ x ∈ v.kids, Whole x := by
 obtain ⟨k, i, n, s, ks, vs⟩ := v
 rw [Whole, wholes_iff]
 rfl
theorem deep_eq (v : Val) : deep v = (if v.kind = 5 ∨ v.kind = 6 then deeps v.kids else 0) + 1 := by
 obtain ⟨k, i, n, s, ks, vs⟩ := v
 rw [deep]
 rfl
abbrev less := Op.bytesLess
theorem less_self (a : List UInt8) : less a a = false := by
 induction a with
 | nil => rfl
 | cons c l ih =>
   unfold less at ih ⊢
   unfold Op.bytesLess
   rw [ih]
   simp
theorem less_trans : ∀ {a b c : List UInt8}, less a b = true → less b c = true → less a c = true
 | [], [], _, h, _ => by simp [less, Op.bytesLess] at h
 | _ :: _, [], _, h, _ => by simp [less, Op.bytesLess] at h
 | _, _ :: _, [], _, h => by simp [less, Op.bytesLess] at h
 | [], _ :: _, _ :: _, _, _ => rfl
 | x :: a, y :: b, z :: c, h1, h2 => by
   have ih := @less_trans a b c
   unfold less at *
   simp only [Op.bytesLess, Bool.or_eq_true, Bool.and_eq_true, decide_eq_true_eq, beq_iff_eq] at *
   rcases h1 with h1 | ⟨rfl, h1⟩
   · rcases h2 with h2 | ⟨rfl, h2⟩
     · exact .inl (UInt8.lt_trans h1 h2)
     · exact .inl h1
   · rcases h2 with h2 | ⟨rfl, h2⟩
     · exact .inl h2
     · exact .inr ⟨rfl, ih h1 h2⟩
theorem less_total : ∀ {a b : List UInt8}, a ≠ b → less a b = false → less b a = true
 | [], [], h, _ => absurd rfl h
 | [], _ :: _, _, h => by simp [less, Op.bytesLess] at h
 | _ :: _, [], _, _ => rfl
 | x :: a, y :: b, h, h1 => by
   have ih := @less_total a b
   unfold less at *
   simp only [Op.bytesLess, Bool.or_eq_true, Bool.or_eq_false_iff, Bool.and_eq_false_iff, Bool.and_eq_true, decide_eq_true_eq, decide_eq_false_iff_not, beq_iff_eq, beq_eq_false_iff_ne] at *
   by_cases e : x = y
   · subst e
     refine .inr ⟨rfl, ih (fun e => h (by rw [e])) ?_⟩
     rcases h1.2 with h2 | h2
     · exact absurd rfl h2
     · exact h2
   · refine .inl ?_
     have h3 := h1.1
     rw [UInt8.lt_iff_toNat_lt] at h3 ⊢
     have : x.toNat ≠ y.toNat := fun e' => e (UInt8.toNat_inj.1 e')
     omega
def ins (p : List UInt8 × Val) : List (List UInt8 × Val) → List (List UInt8 × Val)
 | [] => [p]
 | q :: r => if less p.1 q.1 then p :: q :: r else q :: ins p r
def sortP (l : List (List UInt8 × Val)) : List (List UInt8 × Val) := l.foldr ins []
mutual
def sort : Val → Val
 | ⟨k, i, n, s, ks, vs⟩ => if k = 6 then ⟨k, i, n, s, (sortP (ks.zip (sorts vs))).map (·.1), (sortP (ks.zip (sorts vs))).map (·.2)⟩ else ⟨k, i, n, s, [], sorts vs⟩
def sorts : List Val → List Val
 | [] => []
 | v :: r => sort v :: sorts r
end
theorem sorts_map (vs : List Val) : sorts vs = vs.map sort := by
 induction vs with
 | nil => rfl
 | cons v r ih => rw [sorts, ih, List.map_cons]
end Go.Proofs.YtlfbnfphocpgeaaGreatDoor.Tre
namespace Go.Proofs.YtlfbnfphocpgeaaGreatDoor.Tre
open Num (Dec zero)
abbrev Row := List UInt8 × Val
def Rises (l : List Row) : Prop := l.Pairwise fun a b => less a.1 b.1 = true
theorem ins_perm (p : Row) : ∀ l : List Row, (ins p l).Perm (p :: l)
 | [] => .refl _
 | q :: r => by
   unfold ins
   split
   · exact .refl _
   · exact ((ins_perm p r).cons q).trans (.swap p q r)
theorem sortP_perm : ∀ l : List Row, (sortP l).Perm l
 | [] => .refl _
 | p :: l => (ins_perm p (sortP l)).trans ((sortP_perm l).cons p)
theorem ins_rises {p : Row} : ∀ {l : List Row}, Rises l → (∀ q ∈ l, p.1 ≠ q.1) → Rises (ins p l)
 | [], _, _ => List.pairwise_singleton _ _
 | q :: r, h, hne => by
   unfold Rises at h
   rw [List.pairwise_cons] at h
   unfold ins
   by_cases hl : less p.1 q.1 = true
   · rw [if_pos hl]
     unfold Rises
     rw [List.pairwise_cons, List.pairwise_cons]
     refine ⟨fun x hx => ?_, h⟩
     rcases List.mem_cons.1 hx with rfl | hx
     · exact hl
     · exact less_trans hl (h.1 x hx)
   · rw [if_neg hl]
     unfold Rises
     rw [List.pairwise_cons]
     refine ⟨fun x hx => ?_, ins_rises h.2 fun y hy => hne y (List.mem_cons_of_mem _ hy)⟩
     rcases List.mem_cons.1 ((ins_perm p r).mem_iff.1 hx) with rfl | hx
     · exact less_total (hne q (List.mem_cons_self ..)) (by simpa using hl)
     · exact h.1 x hx
theorem sortP_rises : ∀ {l : List Row}, (l.map (·.1)).Nodup → Rises (sortP l)
 | [], _ => List.Pairwise.nil
 | p :: l, h => by
   rw [List.map_cons, List.nodup_cons] at h
   refine ins_rises (sortP_rises h.2) fun q hq e => h.1 ?_
   rw [e]
   exact List.mem_map_of_mem ((sortP_perm l).mem_iff.1 hq)
theorem rises_one : ∀ {a b : List Row}, Rises a → Rises b → a.Perm b → a = b
 | [], b, _, _, h => (List.nil_perm.1 h).symm
 | x :: a, [], _, _, h => absurd (List.perm_nil.1 h) (by simp)
 | x :: a, y :: b, ha, hb, h => by
   unfold Rises at ha hb
   rw [List.pairwise_cons] at ha hb
   have e : x = y := by
     rcases List.mem_cons.1 (h.mem_iff.1 (List.mem_cons_self ..)) with e | hx
     · exact e
     · rcases List.mem_cons.1 (h.mem_iff.2 (List.mem_cons_self ..)) with e | hy
       · exact e.symm
       · have h1 := less_trans (hb.1 x hx) (ha.1 y hy)
         rw [less_self] at h1
         cases h1
   subst e
   rw [rises_one ha.2 hb.2 ((List.perm_cons x).1 h)]
theorem zip_map_fst {α β : Type} : ∀ {a : List α} {b : List β}, a.length = b.length → (a.zip b).map (·.1) = a
 | [], [], _ => rfl
 | x :: a, y :: b, h => by
   rw [List.zip_cons_cons, List.map_cons, zip_map_fst (by simpa using h)]
theorem zip_map_snd {α β : Type} : ∀ {a : List α} {b : List β}, a.length = b.length → (a.zip b).map (·.2) = b
 | [], [], _ => rfl
 | x :: a, y :: b, h => by
   rw [List.zip_cons_cons, List.map_cons, zip_map_snd (by simpa using h)]
def rows (ks : List (List UInt8)) (vs : List Val) : List Row := sortP (ks.zip (sorts vs))
theorem sort_eq (v : Val) : sort v = if v.kind = 6 then ⟨v.kind, v.is, v.num, v.str, (rows v.keys v.kids).map (·.1), (rows v.keys v.kids).map (·.2)⟩ else ⟨v.kind, v.is, v.num, v.str, [], sorts v.kids⟩ := by
 obtain ⟨k, i, n, s, ks, vs⟩ := v
 rw [sort]
 rfl
theorem sorts_len (vs : List Val) : (sorts vs).length = vs.length := by rw [sorts_map, List.length_map]
theorem rows_keys {ks : List (List UInt8)} {vs : List Val} (h : ks.length = vs.length) : ((rows ks vs).map (·.1)).Perm ks := by
 have := (sortP_perm (ks.zip (sorts vs))).map (·.1)
 rwa [zip_map_fst (by rw [sorts_len, h])] at this
theorem rows_kids {ks : List (List UInt8)} {vs : List Val} (h : ks.length = vs.length) : ((rows ks vs).map (·.2)).Perm (sorts vs) := by
 have := (sortP_perm (ks.zip (sorts vs))).map (·.2)
 rwa [zip_map_snd (by rw [sorts_len, h])] at this
theorem rows_rises {ks : List (List UInt8)} {vs : List Val} (h : ks.length = vs.length) (hn : ks.Nodup) : Rises (rows ks vs) :=
 sortP_rises (by rwa [zip_map_fst (by rw [sorts_len, h])])
theorem deeps_perm {a b : List Val} (h : a.Perm b) : deeps a = deeps b :=
 Nat.le_antisymm (deeps_le.2 fun v hv => deeps_le.1 (Nat.le_refl _) v (h.mem_iff.1 hv)) (deeps_le.2 fun v hv => deeps_le.1 (Nat.le_refl _) v (h.mem_iff.2 hv))
mutual
theorem sort_deep : ∀ v : Val, Whole v → deep (sort v) = deep v
 | ⟨k, i, n, s, ks, vs⟩, h => by
   rw [Whole] at h
   have hd := sorts_deep vs h.2
   rw [sort]
   by_cases h6 : k = 6
   · have hl : ks.length = vs.length := h.1.2.2.2.2.2.2.2.2.2.1 h6
     have hp := deeps_perm (rows_kids hl)
     unfold rows at hp
     rw [if_pos h6, deep, deep, hp, hd]
   · rw [if_neg h6, deep, deep, hd]
theorem sorts_deep : ∀ vs : List Val, Wholes vs → deeps (sorts vs) = deeps vs
 | [], _ => rfl
 | v :: r, h => by
   rw [Wholes] at h
   rw [sorts, deeps, deeps, sort_deep v h.1, sorts_deep r h.2]
end
mutual
theorem sort_whole : ∀ v : Val, Whole v → Whole (sort v)
 | ⟨k, i, n, s, ks, vs⟩, h => by
   rw [Whole] at h
   have hd := sorts_whole vs h.2
   obtain ⟨h1, h2, h3, h4, h5, h6, h7, h8, h9, h10, h11, h12⟩ := h.1
   rw [sort]
   by_cases hk : k = 6
   · rw [if_pos hk, Whole, wholes_iff]
     have hl := h10 hk
     refine ⟨⟨h1, h2, h3, h4, h5, ?_, fun e => absurd hk e, h8, h9, ?_, ?_, ?_⟩, fun v hv => wholes_iff.1 hd v ((rows_kids hl).mem_iff.1 hv)⟩
     · intro e
       exact absurd e (by show ¬ k < 5; omega)
     · intro _
       show ((rows ks vs).map (·.1)).length = ((rows ks vs).map (·.2)).length
       rw [List.length_map, List.length_map]
     · intro q hq
       exact h11 q ((rows_keys hl).mem_iff.1 hq)
     · exact (rows_keys hl).nodup_iff.2 h12
   · rw [if_neg hk, Whole]
     refine ⟨⟨h1, h2, h3, h4, h5, fun e => ?_, fun _ => rfl, h8, h9, fun e => absurd e hk, fun q hq => absurd hq List.not_mem_nil, List.nodup_nil⟩, hd⟩
     have hvs : vs = [] := h6 e
     subst hvs
     rfl
theorem sorts_whole : ∀ vs : List Val, Wholes vs → Wholes (sorts vs)
 | [], _ => trivial
 | v :: r, h => by
   rw [Wholes] at h
   rw [sorts, Wholes]
   exact ⟨sort_whole v h.1, sorts_whole r h.2⟩
end
theorem sort_right {v : Val} (h : Right v) : Right (sort v) := ⟨by rw [sort_deep v h.2]; exact h.1, sort_whole v h.2⟩
end Go.Proofs.YtlfbnfphocpgeaaGreatDoor.Tre
namespace Go.Proofs.YtlfbnfphocpgeaaGreatDoor.Num
def digits (n : Nat) : List UInt8 := if n < 10 then [UInt8.ofNat (48 + n)] else digits (n / 10) ++ [UInt8.ofNat (48 + n % 10)]
termination_by n
decreasing_by omega
theorem digits_lo {n : Nat} (h : n < 10) : digits n = [UInt8.ofNat (48 + n)] := by rw [digits, if_pos h]
theorem digits_hi {n : Nat} (h : 10 ≤ n) : digits n = digits (n / 10) ++ [UInt8.ofNat (48 + n % 10)] := by rw [digits, if_neg (by omega)]
theorem ofNat_dig {x : Nat} (h : x < 10) : (UInt8.ofNat (48 + x)).toNat = 48 + x := by
 rw [UInt8.toNat_ofNat']
 omega
theorem digits_ne (n : Nat) : digits n ≠ [] := by
 by_cases h : n < 10
 · rw [digits_lo h]; simp
 · rw [digits_hi (by omega)]; simp
theorem digits_dg : ∀ (n : Nat), ∀ c ∈ digits n, dg c = true := by
 intro n
 induction n using Nat.strongRecOn with
 | ind n ih =>
   intro c hc
   by_cases h : n < 10
   · rw [digits_lo h, List.mem_singleton] at hc
     subst hc
     have := ofNat_dig h
     simp only [dg, decide_eq_true_eq]
     omega
   · rw [digits_hi (by omega)] at hc
     rcases List.mem_append.1 hc with hc | hc
     · exact ih (n / 10) (by omega) c hc
     · rw [List.mem_singleton] at hc
       subst hc
       have := ofNat_dig (x := n % 10) (by omega)
       simp only [dg, decide_eq_true_eq]
       omega
theorem valD_snoc (d : List UInt8) (c : UInt8) : valD (d ++ [c]) = valD d * 10 + (c.toNat - 48) := by simp [valD]
theorem valD_digits : ∀ (n : Nat), valD (digits n) = n := by
 intro n
 induction n using Nat.strongRecOn with
 | ind n ih =>
   by_cases h : n < 10
   · rw [digits_lo h]
     show 0 * 10 + ((UInt8.ofNat (48 + n)).toNat - 48) = n
     rw [ofNat_dig h]
     omega
   · rw [digits_hi (by omega), valD_snoc, ih (n / 10) (by omega), ofNat_dig (by omega)]
     omega
theorem digits_len : ∀ (n k : Nat), n < 10 ^ k → 0 < k → (digits n).length ≤ k := by
 intro n
 induction n using Nat.strongRecOn with
 | ind n ih =>
   intro k hk h0
   by_cases h : n < 10
   · rw [digits_lo h]; simp; omega
   · rw [digits_hi (by omega), List.length_append]
     have h1 : 10 ^ k = 10 ^ (k - 1) * 10 := by rw [← Nat.pow_succ]; congr 1; omega
     have h2 : 0 < k - 1 := by
       by_cases e : k = 1
       · subst e; omega
       · omega
     have := ih (n / 10) (by omega) (k - 1) (by omega) h2
     simp
     omega
def noughts (n : Nat) : List UInt8 := List.replicate n 48
theorem noughts_dg (n : Nat) : ∀ c ∈ noughts n, dg c = true := by
 intro c hc
 rw [List.eq_of_mem_replicate hc]
 decide
theorem noughts_len (n : Nat) : (noughts n).length = n := List.length_replicate
def print (n : Dec) : List UInt8 :=
 if ¬ Right n then []
 else if n.dig = [] then [48]
 else if 20 < n.exp then negT n.neg ++ (n.dig ++ (101 :: digits n.exp.toNat))
 else if n.exp < -20 then negT n.neg ++ (n.dig ++ (101 :: 45 :: digits (-n.exp).toNat))
 else if 0 ≤ n.exp then negT n.neg ++ (n.dig ++ noughts n.exp.toNat)
 else if -n.exp < n.dig.length then negT n.neg ++ (n.dig.take (n.dig.length - (-n.exp).toNat) ++ (46 :: n.dig.drop (n.dig.length - (-n.exp).toNat)))
 else negT n.neg ++ (48 :: 46 :: (noughts ((-n.exp).toNat - n.dig.length) ++ n.dig))
theorem dropZ_noughts (n : Nat) (D : List UInt8) : (noughts n ++ D).dropWhile z48 = D.dropWhile z48 := by
 induction n with
 | zero => rfl
 | succ n ih =>
   unfold noughts at *
   rw [List.replicate_succ, List.cons_append, List.dropWhile_cons, if_pos (by decide), ih]
theorem dropZ_head {D : List UInt8} (h : D.head? ≠ some 48) : D.dropWhile z48 = D := by
 match D, h with
 | [], _ => rfl
 | c :: D, h =>
   rw [List.dropWhile_cons, if_neg]
   simpa [z48] using h
theorem strip_noughts (n : Nat) (d : List UInt8) (e : Int) : strip (d ++ noughts n) e = strip d (e + n) := by
 induction n generalizing e with
 | zero => simp [noughts]
 | succ n ih =>
   have h1 : d ++ noughts (n + 1) = (d ++ noughts n) ++ [48] := by
     unfold noughts
     rw [List.replicate_succ', List.append_assoc]
   rw [h1, strip_on (by have := nb_app (d ++ noughts n) [48] 0; simp at this ⊢; rw [this]; rfl), List.dropLast_concat, ih]
   congr 1
   omega
theorem norm_noughts (neg : Bool) (n : Nat) (d : List UInt8) (e : Int) : norm neg (d ++ noughts n) e = norm neg d (e + n) := by
 unfold norm
 rw [strip_noughts]
theorem right_head {n : Dec} (h : Right n) (h0 : n.dig ≠ []) : n.dig.head? ≠ some 48 ∧ nb n.dig 0 ≠ 48 ∧ nb n.dig (n.dig.length - 1) ≠ 48 ∧ (∀ c ∈ n.dig, dg c = true) ∧ n.dig.length ≤ 1000 ∧ -10000 ≤ n.exp ∧ n.exp ≤ 10000 := by
 unfold Right at h
 rw [if_neg h0] at h
 refine ⟨?_, h.2.2.2.2.1, h.2.2.2.2.2, h.2.2.2.1, h.1, h.2.1, h.2.2.1⟩
 obtain ⟨c, r, e⟩ := List.exists_cons_of_ne_nil h0
 have h1 := h.2.2.2.2.1
 rw [e] at h1 ⊢
 intro e2
 simp at e2
 subst e2
 exact h1 rfl
theorem norm_right {n : Dec} (h : Right n) (h0 : n.dig ≠ []) : norm n.neg n.dig n.exp = (n, 0) := by
 have hh := right_head h h0
 unfold norm
 rw [strip_stop hh.2.2.1, if_neg h0, if_pos h]
theorem digits_val {x : Nat} (h : x ≤ 10000) : valD (digits x) < 1000000000 := by rw [valD_digits]; omega
theorem print_text {n : Dec} (h : Right n) : ∃ I F x, Parts I F x ∧ print n = text n.neg I F x ∧ (∀ m s E, x = some (m, s, E) → valD E < 1000000000) ∧ norm n.neg ((I ++ F).dropWhile z48) (expV x - F.length) = (n, 0) := by
 by_cases h0 : n.dig = []
 · have hz : n = zero := by
     have h1 := h
     unfold Right at h1
     rw [if_pos h0] at h1
     cases n
     simp_all [zero]
   subst hz
   refine ⟨[48], [], none, ⟨by simp, by decide, .inl rfl, by simp, by simp⟩, by decide, by simp, by decide⟩
 · obtain ⟨hh, hn0, hnl, hd, hlen, he0, he1⟩ := right_head h h0
   have hnr := norm_right h h0
   unfold print
   rw [if_neg (not_not_intro h), if_neg h0]
   by_cases c1 : 20 < n.exp
   · rw [if_pos c1]
     refine ⟨n.dig, [], some (101, [], digits n.exp.toNat), ⟨h0, hd, .inr hh, by simp, ?_⟩, ?_, ?_, ?_⟩
     · intro m s E e
       injection e with e
       injection e with e1 e2
       injection e2 with e2 e3
       subst e1; subst e2; subst e3
       exact ⟨.inl rfl, .inl rfl, digits_ne _, digits_dg _⟩
     · simp [text, fracT, expT]
     · intro m s E e
       injection e with e
       injection e with e1 e2
       injection e2 with e2 e3
       subst e3
       exact digits_val (by omega)
     · rw [List.append_nil, dropZ_head hh]
       simp only [expV, valD_digits, List.length_nil]
       rw [if_neg (by simp)]
       rw [show ((n.exp.toNat : Int) - (0 : Nat)) = n.exp by omega]
       exact hnr
   · rw [if_neg c1]
     by_cases c2 : n.exp < -20
     · rw [if_pos c2]
       refine ⟨n.dig, [], some (101, [45], digits (-n.exp).toNat), ⟨h0, hd, .inr hh, by simp, ?_⟩, ?_, ?_, ?_⟩
       · intro m s E e
         injection e with e
         injection e with e1 e2
         injection e2 with e2 e3
         subst e1; subst e2; subst e3
         exact ⟨.inl rfl, .inr (.inr rfl), digits_ne _, digits_dg _⟩
       · simp [text, fracT, expT]
       · intro m s E e
         injection e with e
         injection e with e1 e2
         injection e2 with e2 e3
         subst e3
         exact digits_val (by omega)
       · rw [List.append_nil, dropZ_head hh]
         simp only [expV, valD_digits, List.length_nil]
         simp only [if_true]
         rw [show (-((-n.exp).toNat : Int) - (0 : Nat)) = n.exp by omega]
         exact hnr
     · rw [if_neg c2]
       by_cases c3 : 0 ≤ n.exp
       · rw [if_pos c3]
         refine ⟨n.dig ++ noughts n.exp.toNat, [], none, ⟨by simp [h0], ?_, .inr ?_, by simp, by simp⟩, ?_, by simp, ?_⟩
         · intro c hc
           rcases List.mem_append.1 hc with hc | hc
           · exact hd c hc
           · exact noughts_dg _ c hc
         · obtain ⟨c, r, e⟩ := List.exists_cons_of_ne_nil h0
           rw [e] at hh ⊢
           simpa using hh
         · simp [text, fracT, expT]
         · have : (n.dig ++ noughts n.exp.toNat).dropWhile z48 = n.dig ++ noughts n.exp.toNat := dropZ_head (by
             obtain ⟨c, r, e⟩ := List.exists_cons_of_ne_nil h0
             rw [e] at hh ⊢
             simpa using hh)
           rw [List.append_nil, this, norm_noughts]
           simp only [expV, List.length_nil]
           rw [show ((0 : Int) - (0 : Nat) + (n.exp.toNat : Int)) = n.exp by omega]
           exact hnr
       · rw [if_neg c3]
         by_cases c4 : -n.exp < n.dig.length
         · rw [if_pos c4]
           obtain ⟨q, hq⟩ : ∃ q, n.dig.length - (-n.exp).toNat = q := ⟨_, rfl⟩
           rw [hq]
           have hF : n.dig.drop q ≠ [] := by
             intro e
             have := congrArg List.length e
             rw [List.length_drop] at this
             simp at this
             omega
           refine ⟨n.dig.take q, n.dig.drop q, none, ⟨?_, fun c hc => hd c (List.mem_of_mem_take hc), .inr ?_, fun c hc => hd c (List.mem_of_mem_drop hc), by simp⟩, ?_, by simp, ?_⟩
           · intro e
             have := congrArg List.length e
             rw [List.length_take, List.length_nil] at this
             omega
           · rw [List.head?_take, if_neg (by omega)]
             exact hh
           · simp [text, fracT, expT, hF]
           · rw [List.take_append_drop, dropZ_head hh, List.length_drop]
             simp only [expV]
             rw [show ((0 : Int) - ((n.dig.length - q : Nat) : Int)) = n.exp by omega]
             exact hnr
         · rw [if_neg c4]
           refine ⟨[48], noughts ((-n.exp).toNat - n.dig.length) ++ n.dig, none, ⟨by simp, by decide, .inl rfl, ?_, by simp⟩, ?_, by simp, ?_⟩
           · intro c hc
             rcases List.mem_append.1 hc with hc | hc
             · exact noughts_dg _ c hc
             · exact hd c hc
           · have : noughts ((-n.exp).toNat - n.dig.length) ++ n.dig ≠ [] := by simp [h0]
             simp [text, fracT, expT, this]
           · have e1 : [48] ++ (noughts ((-n.exp).toNat - n.dig.length) ++ n.dig) = noughts ((-n.exp).toNat - n.dig.length + 1) ++ n.dig := by simp [noughts, List.replicate_succ]
             rw [e1, dropZ_noughts, dropZ_head hh, List.length_append, noughts_len]
             simp only [expV]
             rw [show ((0 : Int) - (((-n.exp).toNat - n.dig.length + n.dig.length : Nat) : Int)) = n.exp by omega]
             exact hnr
theorem text_ne (n : Bool) {I F : List UInt8} {x : Option (UInt8 × List UInt8 × List UInt8)} (h : Parts I F x) : text n I F x ≠ [] := by
 intro e
 have := congrArg List.length e
 obtain ⟨c, I', rfl⟩ := List.exists_cons_of_ne_nil h.ne
 simp [text] at this
theorem parse_print {n : Dec} (h : Right n) : parse (print n) = (n, 0) ∧ scan (print n) = (print n).length ∧ print n ≠ [] := by
 obtain ⟨I, F, x, hp, e, hv, hn⟩ := print_text h
 rw [e]
 exact ⟨by rw [parse_text _ hp hv]; exact hn, scan_text _ hp, text_ne _ hp⟩
end Go.Proofs.YtlfbnfphocpgeaaGreatDoor.Num
namespace Go.Proofs.YtlfbnfphocpgeaaGreatDoor.Quo
open Utf
def hexV (c : UInt8) : Option Nat :=
 if 48 ≤ c.toNat ∧ c.toNat ≤ 57 then some (c.toNat - 48) else if 97 ≤ c.toNat ∧ c.toNat ≤ 102 then some (c.toNat - 97 + 10) else if 65 ≤ c.toNat ∧ c.toNat ≤ 70 then some (c.toNat - 65 + 10) else none
def unitF : Nat → Nat → List UInt8 → Nat × Nat
 | 0, n, _ => (n, 0)
 | _ + 1, _, [] => (0, 2)
 | k + 1, n, c :: r => match hexV c with
   | none => (0, 3)
   | some d => unitF k (n * 16 + d) r
def unit (l : List UInt8) : Nat × Nat := unitF 4 0 l
structure Part where
 s : List UInt8
 size : Nat
 e : Nat
 deriving DecidableEq
def err (e : Nat) : Part := ⟨[], 0, e⟩
def follow (l : List UInt8) : Nat :=
 match l with
 | [] => 2
 | a :: r => if a ≠ 92 then 3 else match r with
   | [] => 2
   | b :: _ => if b ≠ 117 then 3 else 0
def coded (l : List UInt8) : Part :=
 if (unit l).2 ≠ 0 then err (unit l).2
 else if 56320 ≤ (unit l).1 ∧ (unit l).1 ≤ 57343 then err 3
 else if (unit l).1 < 55296 ∨ 57343 < (unit l).1 then ⟨enc (unit l).1, 6, 0⟩
 else if follow (l.drop 4) ≠ 0 then err (follow (l.drop 4))
 else if (unit (l.drop 6)).2 ≠ 0 then err (unit (l.drop 6)).2
 else if (unit (l.drop 6)).1 < 56320 ∨ 57343 < (unit (l.drop 6)).1 then err 3
 else ⟨enc (65536 + ((unit l).1 - 55296) * 1024 + ((unit (l.drop 6)).1 - 56320)), 12, 0⟩
def sign (c : UInt8) : Option UInt8 :=
 if c = 34 ∨ c = 92 ∨ c = 47 then some c else if c = 98 then some 8 else if c = 102 then some 12 else if c = 110 then some 10 else if c = 114 then some 13 else if c = 116 then some 9 else none
def part (l : List UInt8) : Part :=
 match l with
 | [] => err 2
 | c :: r =>
   if c.toNat < 32 then err 3
   else if c ≠ 92 then (if (one (c :: r)).2 = 0 then err 7 else ⟨(c :: r).take (one (c :: r)).2, (one (c :: r)).2, 0⟩)
   else match r with
     | [] => err 2
     | d :: r' => match sign d with
       | some x => ⟨[x], 2, 0⟩
       | none => if d = 117 then coded r' else err 3
theorem unitF_len : ∀ (k n : Nat) (l : List UInt8), (unitF k n l).2 = 0 → k ≤ l.length
 | 0, _, _, _ => Nat.zero_le _
 | k + 1, n, [], h => by simp [unitF] at h
 | k + 1, n, c :: r, h => by
   unfold unitF at h
   split at h
   · simp at h
   · have := unitF_len k _ r h
     simp
     omega
theorem unitF_lt : ∀ (k n : Nat) (l : List UInt8), (unitF k n l).1 ≤ n * 16 ^ k + (16 ^ k - 1)
 | 0, n, _ => by simp [unitF]
 | k + 1, n, [] => by simp [unitF]
 | k + 1, n, c :: r => by
   unfold unitF
   split
   · simp
   · rename_i d hd
     have h := unitF_lt k (n * 16 + d) r
     have hd16 : d ≤ 15 := by
       unfold hexV at hd
       split at hd
       · injection hd with hd; omega
       · split at hd
         · injection hd with hd; omega
         · split at hd
           · injection hd with hd; omega
           · cases hd
     have hp : 0 < 16 ^ k := Nat.pow_pos (by omega)
     rw [Nat.pow_succ]
     have e1 : (n * 16 + d) * 16 ^ k ≤ (n * 16 + 15) * 16 ^ k := Nat.mul_le_mul_right _ (by omega)
     have e2 : (n * 16 + 15) * 16 ^ k = n * (16 ^ k * 16) + 15 * 16 ^ k := by rw [Nat.add_mul, Nat.mul_assoc, Nat.mul_comm 16 (16 ^ k)]
     omega
theorem unit_lt (l : List UInt8) : (unit l).1 < 65536 := by
 have := unitF_lt 4 0 l
 unfold unit
 omega
theorem unit_len {l : List UInt8} (h : (unit l).2 = 0) : 4 ≤ l.length := unitF_len 4 0 l h
theorem coded_ok {l : List UInt8} (h : (coded l).e = 0) : ∃ c, Scalar c ∧ (coded l).s = enc c ∧ 6 ≤ (coded l).size ∧ (coded l).size ≤ l.length + 2 := by
 have b1 := unit_lt l
 have b2 := unit_lt (l.drop 6)
 unfold coded at h ⊢
 by_cases c1 : (unit l).2 ≠ 0
 · rw [if_pos c1] at h; exact absurd h c1
 rw [if_neg c1] at h ⊢
 have l1 := unit_len (l := l) (by omega)
 by_cases c2 : 56320 ≤ (unit l).1 ∧ (unit l).1 ≤ 57343
 · rw [if_pos c2] at h; cases h
 rw [if_neg c2] at h ⊢
 by_cases c3 : (unit l).1 < 55296 ∨ 57343 < (unit l).1
 · rw [if_pos c3]
   exact ⟨(unit l).1, by unfold Scalar; omega, rfl, Nat.le_refl _, by dsimp only; omega⟩
 rw [if_neg c3] at h ⊢
 by_cases c4 : follow (l.drop 4) ≠ 0
 · rw [if_pos c4] at h; exact absurd h c4
 rw [if_neg c4] at h ⊢
 by_cases c5 : (unit (l.drop 6)).2 ≠ 0
 · rw [if_pos c5] at h; exact absurd h c5
 rw [if_neg c5] at h ⊢
 have l2 := unit_len (l := l.drop 6) (by omega)
 rw [List.length_drop] at l2
 by_cases c6 : (unit (l.drop 6)).1 < 56320 ∨ 57343 < (unit (l.drop 6)).1
 · rw [if_pos c6] at h; cases h
 rw [if_neg c6]
 exact ⟨65536 + ((unit l).1 - 55296) * 1024 + ((unit (l.drop 6)).1 - 56320), by unfold Scalar; omega, by dsimp only, by dsimp only; omega, by dsimp only; omega⟩
theorem sign_lt {c x : UInt8} (h : sign c = some x) : x.toNat < 128 := by
 unfold sign at h
 split at h
 · rename_i hc
   injection h with h
   subst h
   rcases hc with rfl | rfl | rfl <;> decide
 · repeat (split at h; (injection h with h; subst h; decide))
   cases h
theorem enc_byte {x : UInt8} (h : x.toNat < 128) : enc x.toNat = [x] := by
 unfold enc encN
 rw [if_pos h]
 simp
theorem part_ok {l : List UInt8} (h : (part l).e = 0) : ∃ c, Scalar c ∧ (part l).s = enc c ∧ 1 ≤ (part l).size ∧ (part l).size ≤ l.length := by
 match l, h with
 | [], h => cases h
 | c :: r, h =>
   unfold part at h ⊢
   dsimp only at h ⊢
   by_cases c1 : c.toNat < 32
   · rw [if_pos c1] at h; cases h
   rw [if_neg c1] at h ⊢
   by_cases c2 : c ≠ 92
   · rw [if_pos c2] at h ⊢
     by_cases c3 : (one (c :: r)).2 = 0
     · rw [if_pos c3] at h; cases h
     rw [if_neg c3]
     obtain ⟨h1, h2, h3⟩ := one_bytes c3
     exact ⟨_, h1, h2, by dsimp only; omega, h3⟩
   rw [if_neg c2] at h ⊢
   match r, h with
   | [], h => cases h
   | d :: r', h =>
     dsimp only at h ⊢
     cases hs : sign d with
     | some x =>
       have := sign_lt hs
       exact ⟨x.toNat, by unfold Scalar; omega, (enc_byte this).symm, by show 1 ≤ 2; omega, by simp⟩
     | none =>
       rw [hs] at h
       dsimp only at h ⊢
       by_cases c4 : d = 117
       · rw [if_pos c4] at h ⊢
         obtain ⟨c, k1, k2, k3, k4⟩ := coded_ok h
         exact ⟨c, k1, k2, by omega, by simp; omega⟩
       · rw [if_neg c4] at h; cases h
def scanF (s : List UInt8) (at' : Nat) (l : List UInt8) : Part :=
 if l.head? = some 34 then ⟨s, at' + 1, 0⟩
 else if _h : (part l).e = 0 then scanF (s ++ (part l).s) (at' + (part l).size) (l.drop (part l).size) else err (part l).e
termination_by l.length
decreasing_by
 obtain ⟨_, _, _, h1, h2⟩ := part_ok _h
 rw [List.length_drop]
 omega
def scan (l : List UInt8) : Part :=
 match l with
 | [] => err 2
 | c :: r => if c ≠ 34 then err 3 else scanF [] 1 r
theorem scanF_end {s : List UInt8} {at' : Nat} {l : List UInt8} (h : l.head? = some 34) : scanF s at' l = ⟨s, at' + 1, 0⟩ := by rw [scanF, if_pos h]
theorem scanF_on {s : List UInt8} {at' : Nat} {l : List UInt8} (h : l.head? ≠ some 34) (he : (part l).e = 0) : scanF s at' l = scanF (s ++ (part l).s) (at' + (part l).size) (l.drop (part l).size) := by
 rw [scanF, if_neg h, dif_pos he]
theorem scanF_err {s : List UInt8} {at' : Nat} {l : List UInt8} (h : l.head? ≠ some 34) (he : (part l).e ≠ 0) : scanF s at' l = err (part l).e := by
 rw [scanF, if_neg h, dif_neg he]
theorem scanF_ok : ∀ (k : Nat) (l : List UInt8), l.length = k → ∀ (s : List UInt8) (at' : Nat), bad s = none → (scanF s at' l).e = 0 → bad (scanF s at' l).s = none ∧ at' < (scanF s at' l).size ∧ (scanF s at' l).size ≤ at' + l.length := by
 intro k
 induction k using Nat.strongRecOn with
 | ind k ih =>
   intro l hl s at' hs h
   by_cases h1 : l.head? = some 34
   · rw [scanF_end h1]
     refine ⟨hs, Nat.lt_succ_self _, ?_⟩
     have : 0 < l.length := by
       cases l with
       | nil => simp at h1
       | cons _ _ => simp
     dsimp only
     omega
   · by_cases he : (part l).e = 0
     · rw [scanF_on h1 he] at h ⊢
       obtain ⟨c, k1, k2, k3, k4⟩ := part_ok he
       have hb : bad (s ++ (part l).s) = none := by
         unfold bad
         rw [scan_append s _ 0 hs, k2]
         have := scan_enc (p := 0 + s.length) k1 []
         rw [List.append_nil] at this
         rw [this, scan_nil]
       have := ih (l.drop (part l).size).length (by rw [List.length_drop]; omega) _ rfl _ _ hb h
       rw [List.length_drop] at this
       exact ⟨this.1, by omega, by omega⟩
     · rw [scanF_err h1 he] at h
       exact absurd h he
end Go.Proofs.YtlfbnfphocpgeaaGreatDoor.Quo
namespace Go.Proofs.YtlfbnfphocpgeaaGreatDoor.Quo
open Utf
def shortB (c : UInt8) : Option UInt8 :=
 if c = 34 then some 34 else if c = 92 then some 92 else if c = 8 then some 98 else if c = 12 then some 102 else if c = 10 then some 110 else if c = 13 then some 114 else if c = 9 then some 116 else none
def hexD (n : Nat) : UInt8 := UInt8.ofNat (if n < 10 then 48 + n else 97 + n - 10)
def esc (c : UInt8) : List UInt8 :=
 match shortB c with
 | some x => [92, x]
 | none => if c.toNat < 32 then [92, 117, 48, 48, hexD (c.toNat / 16), hexD (c.toNat % 16)] else [c]
def print (s : List UInt8) : List UInt8 := 34 :: (s.flatMap esc ++ [34])
theorem enc_hi {c : Nat} (hc : Scalar c) (h : 128 ≤ c) : ∀ b ∈ enc c, 128 ≤ b.toNat := by
 intro b hb
 have hc' := hc
 unfold Scalar at hc'
 rcases enc_kinds hc with ⟨m1, e⟩ | ⟨m1, m2, e⟩ | ⟨m1, m2, e⟩ | ⟨m1, m2, e⟩
 · omega
 all_goals
   rw [e] at hb
   simp only [List.mem_cons, List.not_mem_nil, or_false] at hb
 · rcases hb with rfl | rfl <;> rw [nbc (by omega)] <;> omega
 · rcases hb with rfl | rfl | rfl <;> rw [nbc (by omega)] <;> omega
 · rcases hb with rfl | rfl | rfl | rfl <;> rw [nbc (by omega)] <;> omega
theorem part_hi {c : Nat} (hc : Scalar c) (h : 128 ≤ c) (r : List UInt8) : part (enc c ++ r) = ⟨enc c, (enc c).length, 0⟩ := by
 have hb := enc_hi hc h
 have hl := enc_len (c := c)
 have h1 := one_enc hc r
 obtain ⟨b, t, e⟩ := List.exists_cons_of_ne_nil (show enc c ≠ [] by intro e; rw [e] at hl; simp at hl)
 have hb0 := hb b (by rw [e]; simp)
 rw [e] at h1 ⊢
 show part (b :: (t ++ r)) = _
 have h1' : one (b :: (t ++ r)) = (c, (b :: t).length) := h1
 unfold part
 dsimp only
 rw [if_neg (by omega), if_pos (by rintro rfl; revert hb0; decide), h1']
 dsimp only
 rw [if_neg (by simp)]
 congr 1
 exact List.take_left (l₁ := b :: t) (l₂ := r)
end Go.Proofs.YtlfbnfphocpgeaaGreatDoor.Quo
