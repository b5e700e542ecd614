/- A part of what is_holds leans on (its texts, put together). Nothing is claimed here. -/
import Derived.Test.YtlfbnfphocpgeaaGreatDoorRows
import Derived.WalkKit
namespace Go.Proofs.YtlfbnfphocpgeaaGreatDoor.Num
def nb (l : List UInt8) (i : Nat) : Nat := (l.getD i 0).toNat
theorem nb_app (A B : List UInt8) (i : Nat) : nb (A ++ B) (A.length + i) = nb B i := by
 unfold nb
 rw [List.getD_eq_getElem?_getD, List.getD_eq_getElem?_getD, List.getElem?_append_right (by omega), Nat.add_sub_cancel_left]
theorem nb_zero (c : UInt8) (l : List UInt8) : nb (c :: l) 0 = c.toNat := rfl
theorem nb_nil (i : Nat) : nb [] i = 0 := rfl
theorem nb_past {l : List UInt8} {i : Nat} (h : l.length ≤ i) : nb l i = 0 := by
 unfold nb
 rw [List.getD_eq_getElem?_getD, List.getElem?_eq_none h]
 rfl
def dg (b : UInt8) : Bool := decide (48 ≤ b.toNat ∧ b.toNat ≤ 57)
def DigAt (l : List UInt8) (i : Nat) : Prop := 48 ≤ nb l i ∧ nb l i ≤ 57
instance (l : List UInt8) (i : Nat) : Decidable (DigAt l i) := by unfold DigAt; exact inferInstance
theorem digAt_app (A B : List UInt8) (i : Nat) : DigAt (A ++ B) (A.length + i) ↔ DigAt B i := by unfold DigAt; rw [nb_app]
theorem digAt_lt {l : List UInt8} {i : Nat} (h : DigAt l i) : i < l.length := by
 by_cases hl : i < l.length
 · exact hl
 · have := nb_past (l := l) (i := i) (by omega)
   unfold DigAt at h
   omega
theorem digAt_dg {l : List UInt8} {i : Nat} (h : i < l.length) : DigAt l i ↔ dg l[i] = true := by
 unfold DigAt dg nb
 rw [List.getD_eq_getElem?_getD, List.getElem?_eq_getElem h]
 simp
def run (l : List UInt8) (i : Nat) : Nat := i + ((l.drop i).takeWhile dg).length
theorem run_on {l : List UInt8} {i : Nat} (h : DigAt l i) : run l i = run l (i + 1) := by
 have hl := digAt_lt h
 unfold run
 rw [List.drop_eq_getElem_cons hl, List.takeWhile_cons, if_pos ((digAt_dg hl).1 h), List.length_cons]
 omega
theorem run_stop {l : List UInt8} {i : Nat} (h : ¬ DigAt l i) : run l i = i := by
 unfold run
 by_cases hl : i < l.length
 · rw [List.drop_eq_getElem_cons hl, List.takeWhile_cons, if_neg (fun e => h ((digAt_dg hl).2 e))]
   rfl
 · rw [List.drop_eq_nil_of_le (by omega)]
   rfl
theorem run_ge (l : List UInt8) (i : Nat) : i ≤ run l i := Nat.le_add_right _ _
theorem run_le {l : List UInt8} {i : Nat} (h : i ≤ l.length) : run l i ≤ l.length := by
 unfold run
 have : ((l.drop i).takeWhile dg).length ≤ (l.drop i).length := (List.takeWhile_sublist _).length_le
 rw [List.length_drop] at this
 omega
theorem run_app (A B : List UInt8) (i : Nat) : run (A ++ B) (A.length + i) = A.length + run B i := by
 unfold run
 rw [show A.length + i = A.length + i from rfl, List.drop_append, List.drop_eq_nil_of_le (by omega), List.nil_append, Nat.add_sub_cancel_left]
 omega
theorem run_all {X B : List UInt8} (hX : ∀ x ∈ X, dg x = true) (hB : ¬ DigAt B 0) : run (X ++ B) 0 = X.length := by
 induction X with
 | nil => simpa using run_stop hB
 | cons x X ih =>
   have hx : DigAt (x :: X ++ B) 0 := (digAt_dg (by simp)).2 (by simpa using hX x (by simp))
   rw [run_on hx]
   have := run_app [x] (X ++ B) 0
   rw [ih (fun y h => hX y (by simp [h]))] at this
   simpa [Nat.add_comm] using this
def intEnd (l : List UInt8) (i : Nat) : Nat := if nb l i = 48 then i + 1 else run l i
def fracEnd (l : List UInt8) (i : Nat) : Nat := if nb l i = 46 ∧ DigAt l (i + 1) then run l (i + 1) else i
def signEnd (l : List UInt8) (k : Nat) : Nat := if nb l k = 43 ∨ nb l k = 45 then k + 1 else k
def expEnd (l : List UInt8) (i : Nat) : Nat := if (nb l i = 101 ∨ nb l i = 69) ∧ DigAt l (signEnd l (i + 1)) then run l (signEnd l (i + 1)) else i
def neg0 (l : List UInt8) : Nat := if nb l 0 = 45 then 1 else 0
def scan (l : List UInt8) : Nat := if DigAt l (neg0 l) then expEnd l (fracEnd l (intEnd l (neg0 l))) else 0
theorem intEnd_app (A B : List UInt8) (i : Nat) : intEnd (A ++ B) (A.length + i) = A.length + intEnd B i := by
 unfold intEnd
 rw [nb_app, run_app]
 split <;> omega
theorem fracEnd_app (A B : List UInt8) (i : Nat) : fracEnd (A ++ B) (A.length + i) = A.length + fracEnd B i := by
 unfold fracEnd
 simp only [nb_app, Nat.add_assoc, digAt_app, run_app]
 split <;> omega
theorem signEnd_app (A B : List UInt8) (i : Nat) : signEnd (A ++ B) (A.length + i) = A.length + signEnd B i := by
 unfold signEnd
 rw [nb_app]
 split <;> omega
theorem expEnd_app (A B : List UInt8) (i : Nat) : expEnd (A ++ B) (A.length + i) = A.length + expEnd B i := by
 unfold expEnd
 simp only [nb_app, Nat.add_assoc, signEnd_app, digAt_app, run_app]
 split <;> omega
def fracT (F : List UInt8) : List UInt8 := if F = [] then [] else 46 :: F
def negT (n : Bool) : List UInt8 := if n then [45] else []
def expT : Option (UInt8 × List UInt8 × List UInt8) → List UInt8
 | none => []
 | some (m, s, E) => m :: (s ++ E)
def text (n : Bool) (I F : List UInt8) (x : Option (UInt8 × List UInt8 × List UInt8)) : List UInt8 := negT n ++ (I ++ (fracT F ++ expT x))
structure Parts (I F : List UInt8) (x : Option (UInt8 × List UInt8 × List UInt8)) : Prop where
 ne : I ≠ []
 whole : ∀ c ∈ I, dg c = true
 head : I = [48] ∨ I.head? ≠ some 48
 frac : ∀ c ∈ F, dg c = true
 mark : ∀ m s E, x = some (m, s, E) → (m = 101 ∨ m = 69) ∧ (s = [] ∨ s = [43] ∨ s = [45]) ∧ E ≠ [] ∧ ∀ c ∈ E, dg c = true
theorem dg_num {c : UInt8} (h : dg c = true) : 48 ≤ c.toNat ∧ c.toNat ≤ 57 := by simpa [dg] using h
theorem digAt_head {c : UInt8} {l : List UInt8} (h : dg c = true) : DigAt (c :: l) 0 := by unfold DigAt; rw [nb_zero]; exact dg_num h
theorem expEnd_text {I F : List UInt8} {x : Option (UInt8 × List UInt8 × List UInt8)} (h : Parts I F x) : expEnd (expT x) 0 = (expT x).length := by
 match x, h with
 | none, _ => rfl
 | some (m, s, E), h =>
   obtain ⟨hm, hs, hE, hd⟩ := h.mark m s E rfl
   obtain ⟨e, E', rfl⟩ := List.exists_cons_of_ne_nil hE
   have he := dg_num (hd e (by simp))
   have h1 : nb (expT (some (m, s, e :: E'))) 0 = 101 ∨ nb (expT (some (m, s, e :: E'))) 0 = 69 := by
     show m.toNat = 101 ∨ m.toNat = 69
     rcases hm with rfl | rfl
     · exact .inl rfl
     · exact .inr rfl
   have h2 : signEnd (expT (some (m, s, e :: E'))) (0 + 1) = ([m] ++ s).length + 0 := by
     have := signEnd_app [m] (s ++ (e :: E')) 0
     show signEnd ([m] ++ (s ++ (e :: E'))) ([m].length + 0) = _
     rw [this]
     rcases hs with rfl | rfl | rfl
     · show [m].length + signEnd (e :: E') 0 = _
       unfold signEnd
       rw [nb_zero, if_neg (by omega)]
       rfl
     · rfl
     · rfl
   have h3 : expT (some (m, s, e :: E')) = ([m] ++ s) ++ (e :: E') := by simp [expT]
   have h4 := run_all (X := e :: E') (B := []) hd (by unfold DigAt; rw [nb_nil]; omega)
   rw [List.append_nil] at h4
   unfold expEnd
   rw [h2, h3]
   simp only [digAt_app, run_app]
   rw [if_pos ⟨by rw [← h3]; exact h1, digAt_head (hd e (by simp))⟩, h4]
   simp
   omega
theorem not_dig_exp {I F : List UInt8} {x : Option (UInt8 × List UInt8 × List UInt8)} (h : Parts I F x) : ¬ DigAt (expT x) 0 ∧ nb (expT x) 0 ≠ 46 := by
 match x, h with
 | none, _ => unfold DigAt; show ¬ (48 ≤ 0 ∧ _) ∧ 0 ≠ 46; omega
 | some (m, s, E), h =>
   obtain ⟨hm, _⟩ := h.mark m s E rfl
   unfold DigAt
   show ¬ (48 ≤ m.toNat ∧ m.toNat ≤ 57) ∧ m.toNat ≠ 46
   rcases hm with rfl | rfl <;> decide
theorem fracEnd_text {I F : List UInt8} {x : Option (UInt8 × List UInt8 × List UInt8)} (h : Parts I F x) : fracEnd (fracT F ++ expT x) 0 = (fracT F).length := by
 have hx := not_dig_exp h
 by_cases hF : F = []
 · subst hF
   show fracEnd (expT x) 0 = 0
   unfold fracEnd
   rw [if_neg (fun e => hx.2 e.1)]
 · obtain ⟨f, F', rfl⟩ := List.exists_cons_of_ne_nil hF
   have h1 : fracT (f :: F') ++ expT x = [46] ++ ((f :: F') ++ expT x) := by simp [fracT]
   rw [h1]
   unfold fracEnd
   have h2 := digAt_app [46] ((f :: F') ++ expT x) 0
   have h3 := run_app [46] ((f :: F') ++ expT x) 0
   rw [if_pos ⟨rfl, h2.2 (digAt_head (h.frac f (by simp)))⟩]
   refine h3.trans ?_
   rw [run_all h.frac hx.1]
   simp [fracT]
   omega
theorem not_dig_frac {I F : List UInt8} {x : Option (UInt8 × List UInt8 × List UInt8)} (h : Parts I F x) : ¬ DigAt (fracT F ++ expT x) 0 := by
 by_cases hF : F = []
 · subst hF
   exact (not_dig_exp h).1
 · have h1 : fracT F ++ expT x = 46 :: (F ++ expT x) := by simp [fracT, hF]
   rw [h1]
   unfold DigAt
   rw [nb_zero]
   decide
theorem intEnd_text {I F : List UInt8} {x : Option (UInt8 × List UInt8 × List UInt8)} (h : Parts I F x) : intEnd (I ++ (fracT F ++ expT x)) 0 = I.length := by
 rcases h.head with rfl | hh
 · rfl
 · obtain ⟨c, I', rfl⟩ := List.exists_cons_of_ne_nil h.ne
   unfold intEnd
   have hc : nb (c :: I' ++ (fracT F ++ expT x)) 0 ≠ 48 := by
     show c.toNat ≠ 48
     intro e
     apply hh
     simp
     exact UInt8.toNat_inj.1 e
   rw [if_neg hc, run_all h.whole (not_dig_frac h)]
theorem neg0_text (n : Bool) {I F : List UInt8} {x : Option (UInt8 × List UInt8 × List UInt8)} (h : Parts I F x) : neg0 (text n I F x) = (negT n).length := by
 obtain ⟨c, I', rfl⟩ := List.exists_cons_of_ne_nil h.ne
 have hc := dg_num (h.whole c (by simp))
 cases n with
 | true => rfl
 | false =>
   unfold neg0
   rw [if_neg]
   · rfl
   · show ¬ c.toNat = 45
     omega
theorem scan_text (n : Bool) {I F : List UInt8} {x : Option (UInt8 × List UInt8 × List UInt8)} (h : Parts I F x) : scan (text n I F x) = (text n I F x).length := by
 have h0 := neg0_text n h
 have h1 := intEnd_app (negT n) (I ++ (fracT F ++ expT x)) 0
 have h2 := fracEnd_app (negT n ++ I) (fracT F ++ expT x) 0
 have h3 := expEnd_app (negT n ++ I ++ fracT F) (expT x) 0
 rw [intEnd_text h] at h1
 rw [fracEnd_text h] at h2
 rw [expEnd_text h] at h3
 have e1 : text n I F x = negT n ++ (I ++ (fracT F ++ expT x)) := rfl
 have e2 : text n I F x = negT n ++ I ++ (fracT F ++ expT x) := by rw [e1, List.append_assoc]
 have e3 : text n I F x = negT n ++ I ++ fracT F ++ expT x := by rw [e2, List.append_assoc (negT n ++ I)]
 have hd : DigAt (text n I F x) (negT n).length := by
   obtain ⟨c, I', rfl⟩ := List.exists_cons_of_ne_nil h.ne
   have := (digAt_app (negT n) ((c :: I') ++ (fracT F ++ expT x)) 0).2 (digAt_head (h.whole c (by simp)))
   exact this
 unfold scan
 rw [h0, if_pos hd]
 rw [← e1, Nat.add_zero] at h1
 rw [← e2, Nat.add_zero, List.length_append] at h2
 rw [← e3, Nat.add_zero] at h3
 simp only [List.length_append] at h3
 rw [h1, h2, h3, e3]
 simp only [List.length_append]
structure Dec where
 neg : Bool
 dig : List UInt8
 exp : Int
 deriving DecidableEq
def zero : Dec := ⟨false, [], 0⟩
def Right (n : Dec) : Prop :=
 if n.dig = [] then n.neg = false ∧ n.exp = 0
 else n.dig.length ≤ 1000 ∧ -10000 ≤ n.exp ∧ n.exp ≤ 10000 ∧ (∀ c ∈ n.dig, dg c = true) ∧ nb n.dig 0 ≠ 48 ∧ nb n.dig (n.dig.length - 1) ≠ 48
instance (n : Dec) : Decidable (Right n) := by unfold Right; exact inferInstance
def mantStep (st : Bool × Int × List UInt8) (c : UInt8) : Bool × Int × List UInt8 :=
 if c = 46 then (true, st.2.1, st.2.2) else (st.1, if st.1 then st.2.1 - 1 else st.2.1, if st.2.2 ≠ [] ∨ c ≠ 48 then st.2.2 ++ [c] else st.2.2)
def noE (c : UInt8) : Bool := decide (c ≠ 101 ∧ c ≠ 69)
def mantL (l : List UInt8) (i : Nat) : List UInt8 := (l.drop i).takeWhile noE
def mant (M : List UInt8) : Bool × Int × List UInt8 := M.foldl mantStep (false, 0, [])
def expStep (st : Nat × Bool) (c : UInt8) : Nat × Bool := (if dg c = true ∧ st.1 < 1000000000 then st.1 * 10 + (c.toNat - 48) else st.1, st.2 || decide (c = 45))
def expo (X : List UInt8) : Nat × Bool := X.foldl expStep (0, false)
def z48 (c : UInt8) : Bool := decide (c = 48)
def strip (d : List UInt8) (e : Int) : List UInt8 × Int := ((d.reverse.dropWhile z48).reverse, e + (d.reverse.takeWhile z48).length)
theorem strip_on {d : List UInt8} (h : nb d (d.length - 1) = 48) (e : Int) : strip d e = strip d.dropLast (e + 1) := by
 rcases List.eq_nil_or_concat d with rfl | ⟨d', c, rfl⟩
 · rw [nb_nil] at h; omega
 · have hc : c = 48 := by
     have := nb_app d' [c] 0
     simp at h this
     rw [h, nb_zero] at this
     exact UInt8.toNat_inj.1 this.symm
   subst hc
   unfold strip
   simp [z48]
   omega
theorem strip_stop {d : List UInt8} (h : nb d (d.length - 1) ≠ 48) (e : Int) : strip d e = (d, e) := by
 rcases List.eq_nil_or_concat d with rfl | ⟨d', c, rfl⟩
 · simp [strip]
 · have hc : c ≠ 48 := by
     rintro rfl
     have := nb_app d' [48] 0
     simp at h this
     exact h this
   unfold strip
   simp [z48, hc]
def norm (n : Bool) (d : List UInt8) (e : Int) : Dec × Nat :=
 if (strip d e).1 = [] then (zero, 0) else if Right ⟨n, (strip d e).1, (strip d e).2⟩ then (⟨n, (strip d e).1, (strip d e).2⟩, 0) else (zero, 4)
def powOf (x : Nat × Bool) : Int := if x.2 then -(x.1 : Int) else x.1
def parse (l : List UInt8) : Dec × Nat :=
 if l = [] ∨ scan l ≠ l.length then (zero, 3)
 else norm (decide (nb l 0 = 45)) (mant (mantL l (neg0 l))).2.2 ((mant (mantL l (neg0 l))).2.1 + powOf (expo (l.drop (neg0 l + (mantL l (neg0 l)).length + 1))))
theorem mant_run (X : List UInt8) (hX : ∀ c ∈ X, dg c = true) (p : Bool) (e : Int) (d : List UInt8) :
   X.foldl mantStep (p, e, d) = (p, (if p then e - X.length else e), if d = [] then X.dropWhile z48 else d ++ X) := by
 induction X generalizing e d with
 | nil => by_cases hd : d = [] <;> cases p <;> simp [hd]
 | cons c X ih =>
   have hc := dg_num (hX c (by simp))
   have h46 : c ≠ 46 := by rintro rfl; revert hc; decide
   rw [List.foldl_cons, show mantStep (p, e, d) c = (p, if p then e - 1 else e, if d ≠ [] ∨ c ≠ 48 then d ++ [c] else d) by unfold mantStep; rw [if_neg h46], ih (fun y h => hX y (by simp [h]))]
   by_cases hd : d = []
   · subst hd
     by_cases h0 : c = 48
     · subst h0
       cases p <;> simp [z48] <;> omega
     · cases p <;> simp [z48, h0] <;> omega
   · cases p <;> simp [hd] <;> omega
theorem mant_text {I F : List UInt8} (hI : ∀ c ∈ I, dg c = true) (hF : ∀ c ∈ F, dg c = true) : (mant (I ++ fracT F)).2 = (-(F.length : Int), (I ++ F).dropWhile z48) := by
 unfold mant
 rw [List.foldl_append, mant_run I hI]
 by_cases h : F = []
 · subst h
   simp [fracT]
 · rw [show fracT F = 46 :: F by simp [fracT, h], List.foldl_cons]
   have : mantStep (false, if false = true then 0 - (I.length : Int) else 0, if ([] : List UInt8) = [] then I.dropWhile z48 else [] ++ I) 46 = (true, 0, I.dropWhile z48) := by simp [mantStep]
   rw [this, mant_run F hF, List.dropWhile_append]
   simp
theorem mantL_text (n : Bool) {I F : List UInt8} {x : Option (UInt8 × List UInt8 × List UInt8)} (h : Parts I F x) : mantL (text n I F x) (neg0 (text n I F x)) = I ++ fracT F := by
 rw [neg0_text n h]
 unfold mantL text
 rw [List.drop_left]
 have hd : ∀ c, dg c = true → noE c = true := by
   intro c hc
   have := dg_num hc
   simp only [noE, decide_eq_true_eq]
   constructor <;> rintro rfl <;> revert this <;> decide
 have h1 : ∀ c ∈ I ++ fracT F, noE c = true := by
   intro c hc
   rcases List.mem_append.1 hc with hc | hc
   · exact hd c (h.whole c hc)
   · unfold fracT at hc
     split at hc
     · simp at hc
     · rcases List.mem_cons.1 hc with rfl | hc
       · decide
       · exact hd c (h.frac c hc)
 have h2 : (expT x).takeWhile noE = [] := by
   match x, h with
   | none, _ => rfl
   | some (m, s, E), h =>
     obtain ⟨hm, _⟩ := h.mark m s E rfl
     show (m :: (s ++ E)).takeWhile noE = []
     rcases hm with rfl | rfl <;> rfl
 rw [← List.append_assoc, List.takeWhile_append_of_pos h1, h2, List.append_nil]
def valD (d : List UInt8) : Nat := d.foldl (fun a c => a * 10 + (c.toNat - 48)) 0
theorem val_ge (E : List UInt8) (a : Nat) : a ≤ E.foldl (fun a c => a * 10 + (c.toNat - 48)) a := by
 induction E generalizing a with
 | nil => exact Nat.le_refl _
 | cons c E ih =>
   rw [List.foldl_cons]
   exact Nat.le_trans (by omega) (ih _)
theorem expo_run (E : List UInt8) (hE : ∀ c ∈ E, dg c = true) (a : Nat) (b : Bool) (h : E.foldl (fun a c => a * 10 + (c.toNat - 48)) a < 1000000000) :
   E.foldl expStep (a, b) = (E.foldl (fun a c => a * 10 + (c.toNat - 48)) a, b) := by
 induction E generalizing a with
 | nil => rfl
 | cons c E ih =>
   rw [List.foldl_cons] at h
   have hg := Nat.lt_of_le_of_lt (val_ge E _) h
   have hc := dg_num (hE c (by simp))
   have h45 : c ≠ 45 := by rintro rfl; revert hc; decide
   rw [List.foldl_cons, show expStep (a, b) c = (a * 10 + (c.toNat - 48), b) by unfold expStep; rw [if_pos ⟨hE c (by simp), by dsimp only; omega⟩]; simp [h45], ih (fun y hy => hE y (by simp [hy])) _ h]
   rfl
def expV : Option (UInt8 × List UInt8 × List UInt8) → Int
 | none => 0
 | some (_, s, E) => if s = [45] then -(valD E : Int) else valD E
theorem expo_text {I F : List UInt8} {x : Option (UInt8 × List UInt8 × List UInt8)} (h : Parts I F x) (hx : ∀ m s E, x = some (m, s, E) → valD E < 1000000000) : powOf (expo ((expT x).drop 1)) = expV x := by
 match x, h with
 | none, _ => rfl
 | some (m, s, E), h =>
   obtain ⟨_, hs, _, hd⟩ := h.mark m s E rfl
   have hv := hx m s E rfl
   show powOf ((s ++ E).foldl expStep (0, false)) = _
   rw [List.foldl_append]
   rcases hs with rfl | rfl | rfl
   · rw [List.foldl_nil, expo_run E hd 0 false hv]
     simp [powOf, expV, valD]
   · rw [show [43].foldl expStep (0, false) = (0, false) by decide, expo_run E hd 0 false hv]
     simp [powOf, expV, valD]
   · rw [show [45].foldl expStep (0, false) = (0, true) by decide, expo_run E hd 0 true hv]
     simp [powOf, expV, valD]
theorem parse_text (n : Bool) {I F : List UInt8} {x : Option (UInt8 × List UInt8 × List UInt8)} (h : Parts I F x) (hx : ∀ m s E, x = some (m, s, E) → valD E < 1000000000) :
   parse (text n I F x) = norm n ((I ++ F).dropWhile z48) (expV x - F.length) := by
 have h0 := neg0_text n h
 have hs := scan_text n h
 have hm := mantL_text n h
 have hne : text n I F x ≠ [] := by
   intro e
   have := congrArg List.length e
   obtain ⟨c, I', rfl⟩ := List.exists_cons_of_ne_nil h.ne
   simp [text] at this
 have hneg : decide (nb (text n I F x) 0 = 45) = n := by
   unfold neg0 at h0
   cases n with
   | true => rfl
   | false =>
     split at h0
     · cases h0
     · rename_i hh
       simp [hh]
 unfold parse
 rw [if_neg (by rw [hs]; simp [hne]), hm, mant_text h.whole h.frac, hneg, h0]
 have hdrop : (text n I F x).drop ((negT n).length + (I ++ fracT F).length + 1) = (expT x).drop 1 := by
   have e : text n I F x = (negT n ++ (I ++ fracT F)) ++ expT x := by simp [text]
   rw [e, ← List.length_append, List.drop_append, List.drop_eq_nil_of_le (by omega), List.nil_append]
   congr 1
   omega
 rw [hdrop, expo_text h hx]
 congr 1
 omega
end Go.Proofs.YtlfbnfphocpgeaaGreatDoor.Num
namespace Go.Proofs.YtlfbnfphocpgeaaGreatDoor.Utf
def nb (l : List UInt8) (i : Nat) : Nat := (l.getD i 0).toNat
theorem nb_lt (l : List UInt8) (i : Nat) : nb l i < 256 := (l.getD i 0).toNat_lt
theorem of_nb (l : List UInt8) (i : Nat) {x : Nat} (h : x = nb l i) : UInt8.ofNat x = l.getD i 0 := by rw [h, nb]; exact UInt8.ofNat_toNat
def one (l : List UInt8) : Nat × Nat :=
 if 1 ≤ l.length ∧ nb l 0 < 128 then (nb l 0, 1)
 else if 2 ≤ l.length ∧ 194 ≤ nb l 0 ∧ nb l 0 ≤ 223 ∧ 128 ≤ nb l 1 ∧ nb l 1 ≤ 191 then ((nb l 0 - 192) * 64 + (nb l 1 - 128), 2)
 else if 3 ≤ l.length ∧ 224 ≤ nb l 0 ∧ nb l 0 ≤ 239 ∧ 128 ≤ nb l 1 ∧ nb l 1 ≤ 191 ∧ 128 ≤ nb l 2 ∧ nb l 2 ≤ 191 ∧ (nb l 0 = 224 → 160 ≤ nb l 1) ∧ (nb l 0 = 237 → nb l 1 < 160) then
   ((nb l 0 - 224) * 4096 + (nb l 1 - 128) * 64 + (nb l 2 - 128), 3)
 else if 4 ≤ l.length ∧ 240 ≤ nb l 0 ∧ nb l 0 ≤ 244 ∧ 128 ≤ nb l 1 ∧ nb l 1 ≤ 191 ∧ 128 ≤ nb l 2 ∧ nb l 2 ≤ 191 ∧ 128 ≤ nb l 3 ∧ nb l 3 ≤ 191 ∧ (nb l 0 = 240 → 144 ≤ nb l 1) ∧ (nb l 0 = 244 → nb l 1 < 144) then
   ((nb l 0 - 240) * 262144 + (nb l 1 - 128) * 4096 + (nb l 2 - 128) * 64 + (nb l 3 - 128), 4)
 else (0, 0)
def encN (c : Nat) : List Nat :=
 if c < 128 then [c]
 else if c < 2048 then [192 + c / 64, 128 + c % 64]
 else if c < 65536 then [224 + c / 4096, 128 + c / 64 % 64, 128 + c % 64]
 else [240 + c / 262144, 128 + c / 4096 % 64, 128 + c / 64 % 64, 128 + c % 64]
def enc (c : Nat) : List UInt8 := (encN c).map UInt8.ofNat
def Scalar (c : Nat) : Prop := c ≤ 1114111 ∧ (c < 55296 ∨ 57343 < c)
instance (c : Nat) : Decidable (Scalar c) := by unfold Scalar; exact inferInstance
theorem take1 {l : List UInt8} (h : 1 ≤ l.length) : l.take 1 = [l.getD 0 0] := by
 match l, h with
 | a :: _, _ => simp
theorem take2 {l : List UInt8} (h : 2 ≤ l.length) : l.take 2 = [l.getD 0 0, l.getD 1 0] := by
 match l, h with
 | a :: b :: _, _ => simp
theorem take3 {l : List UInt8} (h : 3 ≤ l.length) : l.take 3 = [l.getD 0 0, l.getD 1 0, l.getD 2 0] := by
 match l, h with
 | a :: b :: c :: _, _ => simp
theorem take4 {l : List UInt8} (h : 4 ≤ l.length) : l.take 4 = [l.getD 0 0, l.getD 1 0, l.getD 2 0, l.getD 3 0] := by
 match l, h with
 | a :: b :: c :: d :: _, _ => simp
theorem enc_kinds {c : Nat} (hc : Scalar c) :
   (c < 128 ∧ enc c = [.ofNat c]) ∨ (128 ≤ c ∧ c < 2048 ∧ enc c = [.ofNat (192 + c / 64), .ofNat (128 + c % 64)]) ∨
   (2048 ≤ c ∧ c < 65536 ∧ enc c = [.ofNat (224 + c / 4096), .ofNat (128 + c / 64 % 64), .ofNat (128 + c % 64)]) ∨
   (65536 ≤ c ∧ c ≤ 1114111 ∧ enc c = [.ofNat (240 + c / 262144), .ofNat (128 + c / 4096 % 64), .ofNat (128 + c / 64 % 64), .ofNat (128 + c % 64)]) := by
 unfold Scalar at hc
 unfold enc encN
 by_cases h1 : c < 128
 · simp [h1]
 by_cases h2 : c < 2048
 · simp [h1, h2]; omega
 by_cases h3 : c < 65536
 · simp [h1, h2, h3]; omega
 · simp [h1, h2, h3]; omega
theorem enc_len {c : Nat} : 1 ≤ (enc c).length ∧ (enc c).length ≤ 4 := by
 unfold enc encN
 split
 · simp
 split
 · simp
 split <;> simp
theorem one_bytes {l : List UInt8} (h : (one l).2 ≠ 0) : Scalar (one l).1 ∧ l.take (one l).2 = enc (one l).1 ∧ (one l).2 ≤ l.length := by
 have b0 := nb_lt l 0
 have b1 := nb_lt l 1
 have b2 := nb_lt l 2
 have b3 := nb_lt l 3
 by_cases c1 : 1 ≤ l.length ∧ nb l 0 < 128
 · have e : one l = (nb l 0, 1) := by unfold one; rw [if_pos c1]
   rw [e]
   refine ⟨by unfold Scalar; dsimp only; omega, ?_, c1.1⟩
   have : encN (nb l 0) = [nb l 0] := by unfold encN; rw [if_pos c1.2]
   rw [take1 c1.1, enc, this]
   simp only [List.map_cons, List.map_nil, of_nb l 0 rfl]
 by_cases c2 : 2 ≤ l.length ∧ 194 ≤ nb l 0 ∧ nb l 0 ≤ 223 ∧ 128 ≤ nb l 1 ∧ nb l 1 ≤ 191
 · have e : one l = ((nb l 0 - 192) * 64 + (nb l 1 - 128), 2) := by unfold one; rw [if_neg c1, if_pos c2]
   rw [e]
   refine ⟨by unfold Scalar; dsimp only; omega, ?_, c2.1⟩
   have h1 : ¬ (nb l 0 - 192) * 64 + (nb l 1 - 128) < 128 := by omega
   have h2 : (nb l 0 - 192) * 64 + (nb l 1 - 128) < 2048 := by omega
   dsimp only
   rw [take2 c2.1, enc, encN, if_neg h1, if_pos h2]
   simp only [List.map_cons, List.map_nil]
   rw [of_nb l 0 (by omega), of_nb l 1 (by omega)]
 by_cases c3 : 3 ≤ l.length ∧ 224 ≤ nb l 0 ∧ nb l 0 ≤ 239 ∧ 128 ≤ nb l 1 ∧ nb l 1 ≤ 191 ∧ 128 ≤ nb l 2 ∧ nb l 2 ≤ 191 ∧ (nb l 0 = 224 → 160 ≤ nb l 1) ∧ (nb l 0 = 237 → nb l 1 < 160)
 · have e : one l = ((nb l 0 - 224) * 4096 + (nb l 1 - 128) * 64 + (nb l 2 - 128), 3) := by unfold one; rw [if_neg c1, if_neg c2, if_pos c3]
   rw [e]
   refine ⟨by unfold Scalar; dsimp only; omega, ?_, c3.1⟩
   have h1 : ¬ (nb l 0 - 224) * 4096 + (nb l 1 - 128) * 64 + (nb l 2 - 128) < 128 := by omega
   have h2 : ¬ (nb l 0 - 224) * 4096 + (nb l 1 - 128) * 64 + (nb l 2 - 128) < 2048 := by omega
   have h3 : (nb l 0 - 224) * 4096 + (nb l 1 - 128) * 64 + (nb l 2 - 128) < 65536 := by omega
   dsimp only
   rw [take3 c3.1, enc, encN, if_neg h1, if_neg h2, if_pos h3]
   simp only [List.map_cons, List.map_nil]
   rw [of_nb l 0 (by omega), of_nb l 1 (by omega), of_nb l 2 (by omega)]
 by_cases c4 : 4 ≤ l.length ∧ 240 ≤ nb l 0 ∧ nb l 0 ≤ 244 ∧ 128 ≤ nb l 1 ∧ nb l 1 ≤ 191 ∧ 128 ≤ nb l 2 ∧ nb l 2 ≤ 191 ∧ 128 ≤ nb l 3 ∧ nb l 3 ≤ 191 ∧ (nb l 0 = 240 → 144 ≤ nb l 1) ∧ (nb l 0 = 244 → nb l 1 < 144)
 · have e : one l = ((nb l 0 - 240) * 262144 + (nb l 1 - 128) * 4096 + (nb l 2 - 128) * 64 + (nb l 3 - 128), 4) := by unfold one; rw [if_neg c1, if_neg c2, if_neg c3, if_pos c4]
   rw [e]
   refine ⟨by unfold Scalar; dsimp only; omega, ?_, c4.1⟩
   have h1 : ¬ (nb l 0 - 240) * 262144 + (nb l 1 - 128) * 4096 + (nb l 2 - 128) * 64 + (nb l 3 - 128) < 128 := by omega
   have h2 : ¬ (nb l 0 - 240) * 262144 + (nb l 1 - 128) * 4096 + (nb l 2 - 128) * 64 + (nb l 3 - 128) < 2048 := by omega
   have h3 : ¬ (nb l 0 - 240) * 262144 + (nb l 1 - 128) * 4096 + (nb l 2 - 128) * 64 + (nb l 3 - 128) < 65536 := by omega
   dsimp only
   rw [take4 c4.1, enc, encN, if_neg h1, if_neg h2, if_neg h3]
   simp only [List.map_cons, List.map_nil]
   rw [of_nb l 0 (by omega), of_nb l 1 (by omega), of_nb l 2 (by omega), of_nb l 3 (by omega)]
 · exfalso
   apply h
   unfold one
   rw [if_neg c1, if_neg c2, if_neg c3, if_neg c4]
theorem nbc {x : Nat} (h : x < 256) : (UInt8.ofNat x).toNat = x := by
 simp [UInt8.toNat_ofNat']; omega
theorem one_enc {c : Nat} (hc : Scalar c) (r : List UInt8) : one (enc c ++ r) = (c, (enc c).length) := by
 have hc' := hc
 unfold Scalar at hc'
 rcases enc_kinds hc with ⟨h1, e⟩ | ⟨h1, h2, e⟩ | ⟨h1, h2, e⟩ | ⟨h1, h2, e⟩
 · rw [e]
   have n0 : nb ([UInt8.ofNat c] ++ r) 0 = c := by simp only [nb, List.cons_append, List.getD_cons_zero]; exact nbc (by omega)
   unfold one
   rw [n0, if_pos ⟨by simp, h1⟩]
   rfl
 · rw [e]
   generalize hl : [UInt8.ofNat (192 + c / 64), UInt8.ofNat (128 + c % 64)] ++ r = l
   have n0 : nb l 0 = 192 + c / 64 := by rw [← hl]; simp only [nb, List.cons_append, List.getD_cons_zero]; exact nbc (by omega)
   have n1 : nb l 1 = 128 + c % 64 := by rw [← hl]; simp only [nb, List.cons_append, List.getD_cons_zero, List.getD_cons_succ]; exact nbc (by omega)
   have len : 2 ≤ l.length := by rw [← hl]; simp
   unfold one
   rw [n0, n1, if_neg (by omega), if_pos ⟨len, by omega, by omega, by omega, by omega⟩]
   exact Prod.ext (by dsimp only; omega) rfl
 · rw [e]
   generalize hl : [UInt8.ofNat (224 + c / 4096), UInt8.ofNat (128 + c / 64 % 64), UInt8.ofNat (128 + c % 64)] ++ r = l
   have n0 : nb l 0 = 224 + c / 4096 := by rw [← hl]; simp only [nb, List.cons_append, List.getD_cons_zero]; exact nbc (by omega)
   have n1 : nb l 1 = 128 + c / 64 % 64 := by rw [← hl]; simp only [nb, List.cons_append, List.getD_cons_zero, List.getD_cons_succ]; exact nbc (by omega)
   have n2 : nb l 2 = 128 + c % 64 := by rw [← hl]; simp only [nb, List.cons_append, List.getD_cons_zero, List.getD_cons_succ]; exact nbc (by omega)
   have len : 3 ≤ l.length := by rw [← hl]; simp
   unfold one
   rw [n0, n1, n2, if_neg (by omega), if_neg (by omega), if_pos ⟨len, by omega, by omega, by omega, by omega, by omega, by omega, by omega, by omega⟩]
   exact Prod.ext (by dsimp only; omega) rfl
 · rw [e]
   generalize hl : [UInt8.ofNat (240 + c / 262144), UInt8.ofNat (128 + c / 4096 % 64), UInt8.ofNat (128 + c / 64 % 64), UInt8.ofNat (128 + c % 64)] ++ r = l
   have n0 : nb l 0 = 240 + c / 262144 := by rw [← hl]; simp only [nb, List.cons_append, List.getD_cons_zero]; exact nbc (by omega)
   have n1 : nb l 1 = 128 + c / 4096 % 64 := by rw [← hl]; simp only [nb, List.cons_append, List.getD_cons_zero, List.getD_cons_succ]; exact nbc (by omega)
   have n2 : nb l 2 = 128 + c / 64 % 64 := by rw [← hl]; simp only [nb, List.cons_append, List.getD_cons_zero, List.getD_cons_succ]; exact nbc (by omega)
   have n3 : nb l 3 = 128 + c % 64 := by rw [← hl]; simp only [nb, List.cons_append, List.getD_cons_zero, List.getD_cons_succ]; exact nbc (by omega)
   have len : 4 ≤ l.length := by rw [← hl]; simp
   unfold one
   rw [n0, n1, n2, n3, if_neg (by omega), if_neg (by omega), if_neg (by omega), if_pos ⟨len, by omega, by omega, by omega, by omega, by omega, by omega, by omega, by omega, by omega, by omega⟩]
   exact Prod.ext (by dsimp only; omega) rfl
theorem one_of_take {c n : Nat} (hc : Scalar c) {l : List UInt8} (h : l.take n = enc c) (hn : n ≤ l.length) : one l = (c, n) := by
 have e : l = enc c ++ l.drop n := by rw [← h]; exact (List.take_append_drop n l).symm
 have hl : (enc c).length = n := by rw [← h, List.length_take]; omega
 rw [e, one_enc hc, hl]
/-! ### The scalars of a list, and where it goes wrong -/
def scan (p : Nat) (l : List UInt8) : List (Nat × Nat) × Option Nat :=
 if l = [] then ([], none)
 else if (one l).2 = 0 then ([], some p)
 else ((p, (one l).1) :: (scan (p + (one l).2) (l.drop (one l).2)).1, (scan (p + (one l).2) (l.drop (one l).2)).2)
termination_by l.length
decreasing_by
 all_goals
   have := List.length_pos_iff.2 (show l ≠ [] by assumption)
   simp only [List.length_drop]
   omega
def all (l : List UInt8) : List (Nat × Nat) := (scan 0 l).1
def bad (l : List UInt8) : Option Nat := (scan 0 l).2
def badI (l : List UInt8) : Int := match bad l with
 | none => -1
 | some p => p
theorem scan_nil (p : Nat) : scan p [] = ([], none) := by rw [scan]; simp
theorem scan_bad {p : Nat} {l : List UInt8} (h : l ≠ []) (h0 : (one l).2 = 0) : scan p l = ([], some p) := by rw [scan, if_neg h, if_pos h0]
theorem scan_step {p : Nat} {l : List UInt8} (h : l ≠ []) (h0 : (one l).2 ≠ 0) :
   scan p l = ((p, (one l).1) :: (scan (p + (one l).2) (l.drop (one l).2)).1, (scan (p + (one l).2) (l.drop (one l).2)).2) := by
 conv => lhs; rw [scan, if_neg h, if_neg h0]
theorem scan_enc {p c : Nat} (hc : Scalar c) (r : List UInt8) :
   scan p (enc c ++ r) = ((p, c) :: (scan (p + (enc c).length) r).1, (scan (p + (enc c).length) r).2) := by
 have h1 := enc_len (c := c)
 have hne : enc c ++ r ≠ [] := fun e => by have := congrArg List.length e; simp only [List.length_append, List.length_nil] at this; omega
 rw [scan_step hne (by rw [one_enc hc]; dsimp only; omega), one_enc hc]
 simp
theorem scan_cases (l : List UInt8) : l = [] ∨ (l ≠ [] ∧ (one l).2 = 0) ∨ ∃ c r, Scalar c ∧ l = enc c ++ r ∧ (one l) = (c, (enc c).length) ∧ r.length < l.length := by
 by_cases h : l = []
 · exact .inl h
 by_cases h0 : (one l).2 = 0
 · exact .inr (.inl ⟨h, h0⟩)
 · obtain ⟨h1, h2, h3⟩ := one_bytes h0
   have e : l = enc (one l).1 ++ l.drop (one l).2 := by rw [← h2]; exact (List.take_append_drop _ l).symm
   refine .inr (.inr ⟨(one l).1, l.drop (one l).2, h1, e, ?_, ?_⟩)
   · have hl : (enc (one l).1).length = (one l).2 := by rw [← h2, List.length_take]; omega
     rw [hl]
   · have := List.length_pos_iff.2 h
     simp only [List.length_drop]; omega
theorem scan_ind {M : List UInt8 → Prop} (h0 : M []) (hb : ∀ l, l ≠ [] → (one l).2 = 0 → M l) (hs : ∀ c r, Scalar c → M r → M (enc c ++ r)) : ∀ l, M l := by
 suffices ∀ n l, l.length ≤ n → M l from fun l => this l.length l (Nat.le_refl _)
 intro n
 induction n with
 | zero =>
   intro l hl
   obtain rfl : l = [] := List.length_eq_zero_iff.1 (by omega)
   exact h0
 | succ n ih =>
   intro l hl
   rcases scan_cases l with rfl | ⟨h1, h2⟩ | ⟨c, r, hc, rfl, _, hr⟩
   · exact h0
   · exact hb l h1 h2
   · exact hs c r hc (ih r (by omega))
theorem scan_append (a b : List UInt8) : ∀ p, (scan p a).2 = none → scan p (a ++ b) = ((scan p a).1 ++ (scan (p + a.length) b).1, (scan (p + a.length) b).2) := by
 refine scan_ind (M := fun a => ∀ p, (scan p a).2 = none → scan p (a ++ b) = ((scan p a).1 ++ (scan (p + a.length) b).1, (scan (p + a.length) b).2)) ?_ ?_ ?_ a
 · intro p _; simp [scan_nil]
 · intro l h1 h2 p h; simp [scan_bad h1 h2] at h
 · intro c r hc ih p h
   rw [scan_enc hc] at h ⊢
   rw [List.append_assoc, scan_enc hc, ih _ h, List.length_append, ← Nat.add_assoc]
   simp
theorem scan_one {c : Nat} (hc : Scalar c) : scan 0 (enc c) = ([(0, c)], none) := by
 have := scan_enc (p := 0) hc []
 rw [List.append_nil, scan_nil] at this
 exact this
theorem badI_neg (l : List UInt8) : badI l < 0 ↔ bad l = none := by
 unfold badI
 cases bad l with
 | none => simp
 | some p => simp
/-! ### The order -/
end Go.Proofs.YtlfbnfphocpgeaaGreatDoor.Utf
namespace Go.Proofs.YtlfbnfphocpgeaaGreatDoor.Utf
open Go.RowKit
theorem at_nb (s : ByteArray) (i : Nat) (h : i < s.size) : (s[i]'h).toNat = nb s.data.toList i := by
 have h' : i < s.data.toList.length := by simpa using h
 simp only [nb, List.getD_eq_getElem?_getD, List.getElem?_eq_getElem h', Option.getD_some]
 rfl
theorem extract_rest (s : ByteArray) (k : Nat) : (s.extract k s.size).data.toList = s.data.toList.drop k := by
 have h : s.data.toList.length = s.size := by simp
 rw [ByteArray.data_extract, Array.toList_extract, List.extract_eq_take_drop]
 exact List.take_of_length_le (by rw [List.length_drop, h]; omega)
theorem scan_at {l : List UInt8} {k : Nat} (hk : k < l.length) :
   ((one (l.drop k)).2 = 0 ∧ scan k (l.drop k) = ([], some k)) ∨
   ((one (l.drop k)).2 ≠ 0 ∧ 1 ≤ (one (l.drop k)).2 ∧ k + (one (l.drop k)).2 ≤ l.length ∧
     scan k (l.drop k) = ((k, (one (l.drop k)).1) :: (scan (k + (one (l.drop k)).2) (l.drop (k + (one (l.drop k)).2))).1, (scan (k + (one (l.drop k)).2) (l.drop (k + (one (l.drop k)).2))).2)) := by
 have hne : l.drop k ≠ [] := fun e => by have := congrArg List.length e; simp only [List.length_drop, List.length_nil] at this; omega
 by_cases h0 : (one (l.drop k)).2 = 0
 · exact .inl ⟨h0, scan_bad hne h0⟩
 · obtain ⟨_, _, h3⟩ := one_bytes h0
   rw [List.length_drop] at h3
   refine .inr ⟨h0, by omega, by omega, ?_⟩
   rw [scan_step hne h0, List.drop_drop]
def putL (c : Int) : List UInt8 := if 0 ≤ c ∧ c ≤ 1114111 ∧ (c < 55296 ∨ 57343 < c) then enc c.toNat else []
end Go.Proofs.YtlfbnfphocpgeaaGreatDoor.Utf
