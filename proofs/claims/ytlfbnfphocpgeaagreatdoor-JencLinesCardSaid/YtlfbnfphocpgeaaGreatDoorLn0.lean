/- A part of what lines_holds leans on (its texts, put together). Nothing is claimed here. -/
import Derived.Test.YtlfbnfphocpgeaaGreatDoorRows
import Derived.WalkKit
import Derived.ProofKit
import Derived.OpenShut
import Derived.Carry
import Derived.StillTailTactics
import Derived.Deep.QuietTactic
import Derived.WalkSpells
import Derived.WalkLawsBesides
import Derived.Deep.AppendSrc
import Derived.RangeFuncBox
import Derived.Lib.BufferRead
namespace Go.Proofs.YtlfbnfphocpgeaaGreatDoor.Num
/-- The byte at a place, as a number (0 behind the end). -/
def nb (l : List UInt8) (i : Nat) : Nat := (l.getD i 0).toNat
theorem nb_lt (l : List UInt8) (i : Nat) : nb l i < 256 := (l.getD i 0).toNat_lt
theorem nb_app (A B : List UInt8) (i : Nat) : nb (A ++ B) (A.length + i) = nb B i := by
  unfold nb
  rw [List.getD_eq_getElem?_getD, List.getD_eq_getElem?_getD, List.getElem?_append_right (by omega), Nat.add_sub_cancel_left]
theorem nb_zero (c : UInt8) (l : List UInt8) : nb (c :: l) 0 = c.toNat := rfl
theorem nb_nil (i : Nat) : nb [] i = 0 := rfl
theorem nb_past {l : List UInt8} {i : Nat} (h : l.length ≤ i) : nb l i = 0 := by
  unfold nb
  rw [List.getD_eq_getElem?_getD, List.getElem?_eq_none h]
  rfl
def dg (b : UInt8) : Bool := decide (48 ≤ b.toNat ∧ b.toNat ≤ 57)
def DigAt (l : List UInt8) (i : Nat) : Prop := 48 ≤ nb l i ∧ nb l i ≤ 57
instance (l : List UInt8) (i : Nat) : Decidable (DigAt l i) := by unfold DigAt; exact inferInstance
theorem digAt_app (A B : List UInt8) (i : Nat) : DigAt (A ++ B) (A.length + i) ↔ DigAt B i := by unfold DigAt; rw [nb_app]
theorem digAt_lt {l : List UInt8} {i : Nat} (h : DigAt l i) : i < l.length := by
  by_cases hl : i < l.length
  · exact hl
  · have := nb_past (l := l) (i := i) (by omega)
    unfold DigAt at h
    omega
theorem digAt_dg {l : List UInt8} {i : Nat} (h : i < l.length) : DigAt l i ↔ dg l[i] = true := by
  unfold DigAt dg nb
  rw [List.getD_eq_getElem?_getD, List.getElem?_eq_getElem h]
  simp
/-- Where the digits end that begin at i. -/
def run (l : List UInt8) (i : Nat) : Nat := i + ((l.drop i).takeWhile dg).length
theorem run_on {l : List UInt8} {i : Nat} (h : DigAt l i) : run l i = run l (i + 1) := by
  have hl := digAt_lt h
  unfold run
  rw [List.drop_eq_getElem_cons hl, List.takeWhile_cons, if_pos ((digAt_dg hl).1 h), List.length_cons]
  omega
theorem run_stop {l : List UInt8} {i : Nat} (h : ¬ DigAt l i) : run l i = i := by
  unfold run
  by_cases hl : i < l.length
  · rw [List.drop_eq_getElem_cons hl, List.takeWhile_cons, if_neg (fun e => h ((digAt_dg hl).2 e))]
    rfl
  · rw [List.drop_eq_nil_of_le (by omega)]
    rfl
theorem run_ge (l : List UInt8) (i : Nat) : i ≤ run l i := Nat.le_add_right _ _
theorem run_le {l : List UInt8} {i : Nat} (h : i ≤ l.length) : run l i ≤ l.length := by
  unfold run
  have : ((l.drop i).takeWhile dg).length ≤ (l.drop i).length := (List.takeWhile_sublist _).length_le
  rw [List.length_drop] at this
  omega
theorem run_app (A B : List UInt8) (i : Nat) : run (A ++ B) (A.length + i) = A.length + run B i := by
  unfold run
  rw [show A.length + i = A.length + i from rfl, List.drop_append, List.drop_eq_nil_of_le (by omega), List.nil_append, Nat.add_sub_cancel_left]
  omega
theorem run_all {X B : List UInt8} (hX : ∀ x ∈ X, dg x = true) (hB : ¬ DigAt B 0) : run (X ++ B) 0 = X.length := by
  induction X with
  | nil => simpa using run_stop hB
  | cons x X ih =>
    have hx : DigAt (x :: X ++ B) 0 := (digAt_dg (by simp)).2 (by simpa using hX x (by simp))
    rw [run_on hx]
    have := run_app [x] (X ++ B) 0
    rw [ih (fun y h => hX y (by simp [h]))] at this
    simpa [Nat.add_comm] using this
/-- Where the whole part ends, the fraction, the power. -/
def intEnd (l : List UInt8) (i : Nat) : Nat := if nb l i = 48 then i + 1 else run l i
def fracEnd (l : List UInt8) (i : Nat) : Nat := if nb l i = 46 ∧ DigAt l (i + 1) then run l (i + 1) else i
def signEnd (l : List UInt8) (k : Nat) : Nat := if nb l k = 43 ∨ nb l k = 45 then k + 1 else k
def expEnd (l : List UInt8) (i : Nat) : Nat := if (nb l i = 101 ∨ nb l i = 69) ∧ DigAt l (signEnd l (i + 1)) then run l (signEnd l (i + 1)) else i
def neg0 (l : List UInt8) : Nat := if nb l 0 = 45 then 1 else 0
def scan (l : List UInt8) : Nat := if DigAt l (neg0 l) then expEnd l (fracEnd l (intEnd l (neg0 l))) else 0
theorem intEnd_app (A B : List UInt8) (i : Nat) : intEnd (A ++ B) (A.length + i) = A.length + intEnd B i := by
  unfold intEnd
  rw [nb_app, run_app]
  split <;> omega
theorem fracEnd_app (A B : List UInt8) (i : Nat) : fracEnd (A ++ B) (A.length + i) = A.length + fracEnd B i := by
  unfold fracEnd
  simp only [nb_app, Nat.add_assoc, digAt_app, run_app]
  split <;> omega
theorem signEnd_app (A B : List UInt8) (i : Nat) : signEnd (A ++ B) (A.length + i) = A.length + signEnd B i := by
  unfold signEnd
  rw [nb_app]
  split <;> omega
theorem expEnd_app (A B : List UInt8) (i : Nat) : expEnd (A ++ B) (A.length + i) = A.length + expEnd B i := by
  unfold expEnd
  simp only [nb_app, Nat.add_assoc, signEnd_app, digAt_app, run_app]
  split <;> omega
/-- A text in its parts: the sign, the whole part, the fraction, the power. -/
def fracT (F : List UInt8) : List UInt8 := if F = [] then [] else 46 :: F
def negT (n : Bool) : List UInt8 := if n then [45] else []
def expT : Option (UInt8 × List UInt8 × List UInt8) → List UInt8
  | none => []
  | some (m, s, E) => m :: (s ++ E)
def text (n : Bool) (I F : List UInt8) (x : Option (UInt8 × List UInt8 × List UInt8)) : List UInt8 := negT n ++ (I ++ (fracT F ++ expT x))
structure Parts (I F : List UInt8) (x : Option (UInt8 × List UInt8 × List UInt8)) : Prop where
  ne : I ≠ []
  whole : ∀ c ∈ I, dg c = true
  head : I = [48] ∨ I.head? ≠ some 48
  frac : ∀ c ∈ F, dg c = true
  mark : ∀ m s E, x = some (m, s, E) → (m = 101 ∨ m = 69) ∧ (s = [] ∨ s = [43] ∨ s = [45]) ∧ E ≠ [] ∧ ∀ c ∈ E, dg c = true
theorem dg_num {c : UInt8} (h : dg c = true) : 48 ≤ c.toNat ∧ c.toNat ≤ 57 := by simpa [dg] using h
theorem digAt_head {c : UInt8} {l : List UInt8} (h : dg c = true) : DigAt (c :: l) 0 := by unfold DigAt; rw [nb_zero]; exact dg_num h
theorem expEnd_text {I F : List UInt8} {x : Option (UInt8 × List UInt8 × List UInt8)} (h : Parts I F x) : expEnd (expT x) 0 = (expT x).length := by
  match x, h with
  | none, _ => rfl
  | some (m, s, E), h =>
    obtain ⟨hm, hs, hE, hd⟩ := h.mark m s E rfl
    obtain ⟨e, E', rfl⟩ := List.exists_cons_of_ne_nil hE
    have he := dg_num (hd e (by simp))
    have h1 : nb (expT (some (m, s, e :: E'))) 0 = 101 ∨ nb (expT (some (m, s, e :: E'))) 0 = 69 := by
      show m.toNat = 101 ∨ m.toNat = 69
      rcases hm with rfl | rfl
      · exact .inl rfl
      · exact .inr rfl
    have h2 : signEnd (expT (some (m, s, e :: E'))) (0 + 1) = ([m] ++ s).length + 0 := by
      have := signEnd_app [m] (s ++ (e :: E')) 0
      show signEnd ([m] ++ (s ++ (e :: E'))) ([m].length + 0) = _
      rw [this]
      rcases hs with rfl | rfl | rfl
      · show [m].length + signEnd (e :: E') 0 = _
        unfold signEnd
        rw [nb_zero, if_neg (by omega)]
        rfl
      · rfl
      · rfl
    have h3 : expT (some (m, s, e :: E')) = ([m] ++ s) ++ (e :: E') := by simp [expT]
    have h4 := run_all (X := e :: E') (B := []) hd (by unfold DigAt; rw [nb_nil]; omega)
    rw [List.append_nil] at h4
    unfold expEnd
    rw [h2, h3]
    simp only [digAt_app, run_app]
    rw [if_pos ⟨by rw [← h3]; exact h1, digAt_head (hd e (by simp))⟩, h4]
    simp
    omega
theorem not_dig_exp {I F : List UInt8} {x : Option (UInt8 × List UInt8 × List UInt8)} (h : Parts I F x) : ¬ DigAt (expT x) 0 ∧ nb (expT x) 0 ≠ 46 := by
  match x, h with
  | none, _ => unfold DigAt; show ¬ (48 ≤ 0 ∧ _) ∧ 0 ≠ 46; omega
  | some (m, s, E), h =>
    obtain ⟨hm, _⟩ := h.mark m s E rfl
    unfold DigAt
    show ¬ (48 ≤ m.toNat ∧ m.toNat ≤ 57) ∧ m.toNat ≠ 46
    rcases hm with rfl | rfl <;> decide
theorem fracEnd_text {I F : List UInt8} {x : Option (UInt8 × List UInt8 × List UInt8)} (h : Parts I F x) : fracEnd (fracT F ++ expT x) 0 = (fracT F).length := by
  have hx := not_dig_exp h
  by_cases hF : F = []
  · subst hF
    show fracEnd (expT x) 0 = 0
    unfold fracEnd
    rw [if_neg (fun e => hx.2 e.1)]
  · obtain ⟨f, F', rfl⟩ := List.exists_cons_of_ne_nil hF
    have h1 : fracT (f :: F') ++ expT x = [46] ++ ((f :: F') ++ expT x) := by simp [fracT]
    rw [h1]
    unfold fracEnd
    have h2 := digAt_app [46] ((f :: F') ++ expT x) 0
    have h3 := run_app [46] ((f :: F') ++ expT x) 0
    rw [if_pos ⟨rfl, h2.2 (digAt_head (h.frac f (by simp)))⟩]
    refine h3.trans ?_
    rw [run_all h.frac hx.1]
    simp [fracT]
    omega
theorem not_dig_frac {I F : List UInt8} {x : Option (UInt8 × List UInt8 × List UInt8)} (h : Parts I F x) : ¬ DigAt (fracT F ++ expT x) 0 := by
  by_cases hF : F = []
  · subst hF
    exact (not_dig_exp h).1
  · have h1 : fracT F ++ expT x = 46 :: (F ++ expT x) := by simp [fracT, hF]
    rw [h1]
    unfold DigAt
    rw [nb_zero]
    decide
theorem intEnd_text {I F : List UInt8} {x : Option (UInt8 × List UInt8 × List UInt8)} (h : Parts I F x) : intEnd (I ++ (fracT F ++ expT x)) 0 = I.length := by
  rcases h.head with rfl | hh
  · rfl
  · obtain ⟨c, I', rfl⟩ := List.exists_cons_of_ne_nil h.ne
    unfold intEnd
    have hc : nb (c :: I' ++ (fracT F ++ expT x)) 0 ≠ 48 := by
      show c.toNat ≠ 48
      intro e
      apply hh
      simp
      exact UInt8.toNat_inj.1 e
    rw [if_neg hc, run_all h.whole (not_dig_frac h)]
theorem neg0_text (n : Bool) {I F : List UInt8} {x : Option (UInt8 × List UInt8 × List UInt8)} (h : Parts I F x) : neg0 (text n I F x) = (negT n).length := by
  obtain ⟨c, I', rfl⟩ := List.exists_cons_of_ne_nil h.ne
  have hc := dg_num (h.whole c (by simp))
  cases n with
  | true => rfl
  | false =>
    unfold neg0
    rw [if_neg]
    · rfl
    · show ¬ c.toNat = 45
      omega
theorem scan_text (n : Bool) {I F : List UInt8} {x : Option (UInt8 × List UInt8 × List UInt8)} (h : Parts I F x) : scan (text n I F x) = (text n I F x).length := by
  have h0 := neg0_text n h
  have h1 := intEnd_app (negT n) (I ++ (fracT F ++ expT x)) 0
  have h2 := fracEnd_app (negT n ++ I) (fracT F ++ expT x) 0
  have h3 := expEnd_app (negT n ++ I ++ fracT F) (expT x) 0
  rw [intEnd_text h] at h1
  rw [fracEnd_text h] at h2
  rw [expEnd_text h] at h3
  have e1 : text n I F x = negT n ++ (I ++ (fracT F ++ expT x)) := rfl
  have e2 : text n I F x = negT n ++ I ++ (fracT F ++ expT x) := by rw [e1, List.append_assoc]
  have e3 : text n I F x = negT n ++ I ++ fracT F ++ expT x := by rw [e2, List.append_assoc (negT n ++ I)]
  have hd : DigAt (text n I F x) (negT n).length := by
    obtain ⟨c, I', rfl⟩ := List.exists_cons_of_ne_nil h.ne
    have := (digAt_app (negT n) ((c :: I') ++ (fracT F ++ expT x)) 0).2 (digAt_head (h.whole c (by simp)))
    exact this
  unfold scan
  rw [h0, if_pos hd]
  rw [← e1, Nat.add_zero] at h1
  rw [← e2, Nat.add_zero, List.length_append] at h2
  rw [← e3, Nat.add_zero] at h3
  simp only [List.length_append] at h3
  rw [h1, h2, h3, e3]
  simp only [List.length_append]
/-- A number. -/
structure Dec where
  neg : Bool
  dig : List UInt8
  exp : Int
  deriving DecidableEq
def zero : Dec := ⟨false, [], 0⟩
def Right (n : Dec) : Prop :=
  if n.dig = [] then n.neg = false ∧ n.exp = 0
  else n.dig.length ≤ 1000 ∧ -10000 ≤ n.exp ∧ n.exp ≤ 10000 ∧ (∀ c ∈ n.dig, dg c = true) ∧ nb n.dig 0 ≠ 48 ∧ nb n.dig (n.dig.length - 1) ≠ 48
instance (n : Dec) : Decidable (Right n) := by unfold Right; exact inferInstance
/-- The mantissa, byte by byte: behind the point; how many digits behind it, less than nothing; the digits from the first that isn't 0 on. -/
def mantStep (st : Bool × Int × List UInt8) (c : UInt8) : Bool × Int × List UInt8 :=
  if c = 46 then (true, st.2.1, st.2.2) else (st.1, if st.1 then st.2.1 - 1 else st.2.1, if st.2.2 ≠ [] ∨ c ≠ 48 then st.2.2 ++ [c] else st.2.2)
def noE (c : UInt8) : Bool := decide (c ≠ 101 ∧ c ≠ 69)
def mantL (l : List UInt8) (i : Nat) : List UInt8 := (l.drop i).takeWhile noE
def mant (M : List UInt8) : Bool × Int × List UInt8 := M.foldl mantStep (false, 0, [])
/-- The power, byte by byte: its size, and whether it is one down. -/
def expStep (st : Nat × Bool) (c : UInt8) : Nat × Bool := (if dg c = true ∧ st.1 < 1000000000 then st.1 * 10 + (c.toNat - 48) else st.1, st.2 || decide (c = 45))
def expo (X : List UInt8) : Nat × Bool := X.foldl expStep (0, false)
def z48 (c : UInt8) : Bool := decide (c = 48)
/-- Without the noughts at the end. -/
def strip (d : List UInt8) (e : Int) : List UInt8 × Int := ((d.reverse.dropWhile z48).reverse, e + (d.reverse.takeWhile z48).length)
theorem strip_on {d : List UInt8} (h : nb d (d.length - 1) = 48) (e : Int) : strip d e = strip d.dropLast (e + 1) := by
  rcases List.eq_nil_or_concat d with rfl | ⟨d', c, rfl⟩
  · rw [nb_nil] at h; omega
  · have hc : c = 48 := by
      have := nb_app d' [c] 0
      simp at h this
      rw [h, nb_zero] at this
      exact UInt8.toNat_inj.1 this.symm
    subst hc
    unfold strip
    simp [z48]
    omega
theorem strip_stop {d : List UInt8} (h : nb d (d.length - 1) ≠ 48) (e : Int) : strip d e = (d, e) := by
  rcases List.eq_nil_or_concat d with rfl | ⟨d', c, rfl⟩
  · simp [strip]
  · have hc : c ≠ 48 := by
      rintro rfl
      have := nb_app d' [48] 0
      simp at h this
      exact h this
    unfold strip
    simp [z48, hc]
/-- What is told of digits and a power. -/
def norm (n : Bool) (d : List UInt8) (e : Int) : Dec × Nat :=
  if (strip d e).1 = [] then (zero, 0) else if Right ⟨n, (strip d e).1, (strip d e).2⟩ then (⟨n, (strip d e).1, (strip d e).2⟩, 0) else (zero, 4)
def powOf (x : Nat × Bool) : Int := if x.2 then -(x.1 : Int) else x.1
def parse (l : List UInt8) : Dec × Nat :=
  if l = [] ∨ scan l ≠ l.length then (zero, 3)
  else norm (decide (nb l 0 = 45)) (mant (mantL l (neg0 l))).2.2 ((mant (mantL l (neg0 l))).2.1 + powOf (expo (l.drop (neg0 l + (mantL l (neg0 l)).length + 1))))
theorem mant_run (X : List UInt8) (hX : ∀ c ∈ X, dg c = true) (p : Bool) (e : Int) (d : List UInt8) :
    X.foldl mantStep (p, e, d) = (p, (if p then e - X.length else e), if d = [] then X.dropWhile z48 else d ++ X) := by
  induction X generalizing e d with
  | nil => by_cases hd : d = [] <;> cases p <;> simp [hd]
  | cons c X ih =>
    have hc := dg_num (hX c (by simp))
    have h46 : c ≠ 46 := by rintro rfl; revert hc; decide
    rw [List.foldl_cons, show mantStep (p, e, d) c = (p, if p then e - 1 else e, if d ≠ [] ∨ c ≠ 48 then d ++ [c] else d) by unfold mantStep; rw [if_neg h46], ih (fun y h => hX y (by simp [h]))]
    by_cases hd : d = []
    · subst hd
      by_cases h0 : c = 48
      · subst h0
        cases p <;> simp [z48] <;> omega
      · cases p <;> simp [z48, h0] <;> omega
    · cases p <;> simp [hd] <;> omega
theorem mant_text {I F : List UInt8} (hI : ∀ c ∈ I, dg c = true) (hF : ∀ c ∈ F, dg c = true) : (mant (I ++ fracT F)).2 = (-(F.length : Int), (I ++ F).dropWhile z48) := by
  unfold mant
  rw [List.foldl_append, mant_run I hI]
  by_cases h : F = []
  · subst h
    simp [fracT]
  · rw [show fracT F = 46 :: F by simp [fracT, h], List.foldl_cons]
    have : mantStep (false, if false = true then 0 - (I.length : Int) else 0, if ([] : List UInt8) = [] then I.dropWhile z48 else [] ++ I) 46 = (true, 0, I.dropWhile z48) := by simp [mantStep]
    rw [this, mant_run F hF, List.dropWhile_append]
    simp
theorem mantL_text (n : Bool) {I F : List UInt8} {x : Option (UInt8 × List UInt8 × List UInt8)} (h : Parts I F x) : mantL (text n I F x) (neg0 (text n I F x)) = I ++ fracT F := by
  rw [neg0_text n h]
  unfold mantL text
  rw [List.drop_left]
  have hd : ∀ c, dg c = true → noE c = true := by
    intro c hc
    have := dg_num hc
    simp only [noE, decide_eq_true_eq]
    constructor <;> rintro rfl <;> revert this <;> decide
  have h1 : ∀ c ∈ I ++ fracT F, noE c = true := by
    intro c hc
    rcases List.mem_append.1 hc with hc | hc
    · exact hd c (h.whole c hc)
    · unfold fracT at hc
      split at hc
      · simp at hc
      · rcases List.mem_cons.1 hc with rfl | hc
        · decide
        · exact hd c (h.frac c hc)
  have h2 : (expT x).takeWhile noE = [] := by
    match x, h with
    | none, _ => rfl
    | some (m, s, E), h =>
      obtain ⟨hm, _⟩ := h.mark m s E rfl
      show (m :: (s ++ E)).takeWhile noE = []
      rcases hm with rfl | rfl <;> rfl
  rw [← List.append_assoc, List.takeWhile_append_of_pos h1, h2, List.append_nil]
def valD (d : List UInt8) : Nat := d.foldl (fun a c => a * 10 + (c.toNat - 48)) 0
theorem val_ge (E : List UInt8) (a : Nat) : a ≤ E.foldl (fun a c => a * 10 + (c.toNat - 48)) a := by
  induction E generalizing a with
  | nil => exact Nat.le_refl _
  | cons c E ih =>
    rw [List.foldl_cons]
    exact Nat.le_trans (by omega) (ih _)
theorem expo_run (E : List UInt8) (hE : ∀ c ∈ E, dg c = true) (a : Nat) (b : Bool) (h : E.foldl (fun a c => a * 10 + (c.toNat - 48)) a < 1000000000) :
    E.foldl expStep (a, b) = (E.foldl (fun a c => a * 10 + (c.toNat - 48)) a, b) := by
  induction E generalizing a with
  | nil => rfl
  | cons c E ih =>
    rw [List.foldl_cons] at h
    have hg := Nat.lt_of_le_of_lt (val_ge E _) h
    have hc := dg_num (hE c (by simp))
    have h45 : c ≠ 45 := by rintro rfl; revert hc; decide
    rw [List.foldl_cons, show expStep (a, b) c = (a * 10 + (c.toNat - 48), b) by unfold expStep; rw [if_pos ⟨hE c (by simp), by dsimp only; omega⟩]; simp [h45], ih (fun y hy => hE y (by simp [hy])) _ h]
    rfl
/-- The power that a text's end tells. -/
def expV : Option (UInt8 × List UInt8 × List UInt8) → Int
  | none => 0
  | some (_, s, E) => if s = [45] then -(valD E : Int) else valD E
theorem expo_text {I F : List UInt8} {x : Option (UInt8 × List UInt8 × List UInt8)} (h : Parts I F x) (hx : ∀ m s E, x = some (m, s, E) → valD E < 1000000000) : powOf (expo ((expT x).drop 1)) = expV x := by
  match x, h with
  | none, _ => rfl
  | some (m, s, E), h =>
    obtain ⟨_, hs, _, hd⟩ := h.mark m s E rfl
    have hv := hx m s E rfl
    show powOf ((s ++ E).foldl expStep (0, false)) = _
    rw [List.foldl_append]
    rcases hs with rfl | rfl | rfl
    · rw [List.foldl_nil, expo_run E hd 0 false hv]
      simp [powOf, expV, valD]
    · rw [show [43].foldl expStep (0, false) = (0, false) by decide, expo_run E hd 0 false hv]
      simp [powOf, expV, valD]
    · rw [show [45].foldl expStep (0, false) = (0, true) by decide, expo_run E hd 0 true hv]
      simp [powOf, expV, valD]
theorem parse_text (n : Bool) {I F : List UInt8} {x : Option (UInt8 × List UInt8 × List UInt8)} (h : Parts I F x) (hx : ∀ m s E, x = some (m, s, E) → valD E < 1000000000) :
    parse (text n I F x) = norm n ((I ++ F).dropWhile z48) (expV x - F.length) := by
  have h0 := neg0_text n h
  have hs := scan_text n h
  have hm := mantL_text n h
  have hne : text n I F x ≠ [] := by
    intro e
    have := congrArg List.length e
    obtain ⟨c, I', rfl⟩ := List.exists_cons_of_ne_nil h.ne
    simp [text] at this
  have hneg : decide (nb (text n I F x) 0 = 45) = n := by
    unfold neg0 at h0
    cases n with
    | true => rfl
    | false =>
      split at h0
      · cases h0
      · rename_i hh
        simp [hh]
  unfold parse
  rw [if_neg (by rw [hs]; simp [hne]), hm, mant_text h.whole h.frac, hneg, h0]
  have hdrop : (text n I F x).drop ((negT n).length + (I ++ fracT F).length + 1) = (expT x).drop 1 := by
    have e : text n I F x = (negT n ++ (I ++ fracT F)) ++ expT x := by simp [text]
    rw [e, ← List.length_append, List.drop_append, List.drop_eq_nil_of_le (by omega), List.nil_append]
    congr 1
    omega
  rw [hdrop, expo_text h hx]
  congr 1
  omega
end Go.Proofs.YtlfbnfphocpgeaaGreatDoor.Num
namespace Go.Proofs.YtlfbnfphocpgeaaGreatDoor.Utf
/-- The byte at a place, as a number (0 behind the end). -/
def nb (l : List UInt8) (i : Nat) : Nat := (l.getD i 0).toNat
theorem nb_lt (l : List UInt8) (i : Nat) : nb l i < 256 := (l.getD i 0).toNat_lt
theorem of_nb (l : List UInt8) (i : Nat) {x : Nat} (h : x = nb l i) : UInt8.ofNat x = l.getD i 0 := by rw [h, nb]; exact UInt8.ofNat_toNat
/-- The scalar that l begins with, and its size; size 0: there is none. -/
def one (l : List UInt8) : Nat × Nat :=
  if 1 ≤ l.length ∧ nb l 0 < 128 then (nb l 0, 1)
  else if 2 ≤ l.length ∧ 194 ≤ nb l 0 ∧ nb l 0 ≤ 223 ∧ 128 ≤ nb l 1 ∧ nb l 1 ≤ 191 then ((nb l 0 - 192) * 64 + (nb l 1 - 128), 2)
  else if 3 ≤ l.length ∧ 224 ≤ nb l 0 ∧ nb l 0 ≤ 239 ∧ 128 ≤ nb l 1 ∧ nb l 1 ≤ 191 ∧ 128 ≤ nb l 2 ∧ nb l 2 ≤ 191 ∧ (nb l 0 = 224 → 160 ≤ nb l 1) ∧ (nb l 0 = 237 → nb l 1 < 160) then
    ((nb l 0 - 224) * 4096 + (nb l 1 - 128) * 64 + (nb l 2 - 128), 3)
  else if 4 ≤ l.length ∧ 240 ≤ nb l 0 ∧ nb l 0 ≤ 244 ∧ 128 ≤ nb l 1 ∧ nb l 1 ≤ 191 ∧ 128 ≤ nb l 2 ∧ nb l 2 ≤ 191 ∧ 128 ≤ nb l 3 ∧ nb l 3 ≤ 191 ∧ (nb l 0 = 240 → 144 ≤ nb l 1) ∧ (nb l 0 = 244 → nb l 1 < 144) then
    ((nb l 0 - 240) * 262144 + (nb l 1 - 128) * 4096 + (nb l 2 - 128) * 64 + (nb l 3 - 128), 4)
  else (0, 0)
/-- How a scalar is written, in numbers. -/
def encN (c : Nat) : List Nat :=
  if c < 128 then [c]
  else if c < 2048 then [192 + c / 64, 128 + c % 64]
  else if c < 65536 then [224 + c / 4096, 128 + c / 64 % 64, 128 + c % 64]
  else [240 + c / 262144, 128 + c / 4096 % 64, 128 + c / 64 % 64, 128 + c % 64]
def enc (c : Nat) : List UInt8 := (encN c).map UInt8.ofNat
def Scalar (c : Nat) : Prop := c ≤ 1114111 ∧ (c < 55296 ∨ 57343 < c)
instance (c : Nat) : Decidable (Scalar c) := by unfold Scalar; exact inferInstance
theorem take1 {l : List UInt8} (h : 1 ≤ l.length) : l.take 1 = [l.getD 0 0] := by
  match l, h with
  | a :: _, _ => simp
theorem take2 {l : List UInt8} (h : 2 ≤ l.length) : l.take 2 = [l.getD 0 0, l.getD 1 0] := by
  match l, h with
  | a :: b :: _, _ => simp
theorem take3 {l : List UInt8} (h : 3 ≤ l.length) : l.take 3 = [l.getD 0 0, l.getD 1 0, l.getD 2 0] := by
  match l, h with
  | a :: b :: c :: _, _ => simp
theorem take4 {l : List UInt8} (h : 4 ≤ l.length) : l.take 4 = [l.getD 0 0, l.getD 1 0, l.getD 2 0, l.getD 3 0] := by
  match l, h with
  | a :: b :: c :: d :: _, _ => simp
/-- The four kinds of scalars, each with its bytes. -/
theorem enc_kinds {c : Nat} (hc : Scalar c) :
    (c < 128 ∧ enc c = [.ofNat c]) ∨ (128 ≤ c ∧ c < 2048 ∧ enc c = [.ofNat (192 + c / 64), .ofNat (128 + c % 64)]) ∨
    (2048 ≤ c ∧ c < 65536 ∧ enc c = [.ofNat (224 + c / 4096), .ofNat (128 + c / 64 % 64), .ofNat (128 + c % 64)]) ∨
    (65536 ≤ c ∧ c ≤ 1114111 ∧ enc c = [.ofNat (240 + c / 262144), .ofNat (128 + c / 4096 % 64), .ofNat (128 + c / 64 % 64), .ofNat (128 + c % 64)]) := by
  unfold Scalar at hc
  unfold enc encN
  by_cases h1 : c < 128
  · simp [h1]
  by_cases h2 : c < 2048
  · simp [h1, h2]; omega
  by_cases h3 : c < 65536
  · simp [h1, h2, h3]; omega
  · simp [h1, h2, h3]; omega
theorem enc_len {c : Nat} : 1 ≤ (enc c).length ∧ (enc c).length ≤ 4 := by
  unfold enc encN
  split
  · simp
  split
  · simp
  split <;> simp
/-- What is told of a list is told rightly: the scalar's bytes stand there. -/
theorem one_bytes {l : List UInt8} (h : (one l).2 ≠ 0) : Scalar (one l).1 ∧ l.take (one l).2 = enc (one l).1 ∧ (one l).2 ≤ l.length := by
  have b0 := nb_lt l 0
  have b1 := nb_lt l 1
  have b2 := nb_lt l 2
  have b3 := nb_lt l 3
  by_cases c1 : 1 ≤ l.length ∧ nb l 0 < 128
  · have e : one l = (nb l 0, 1) := by unfold one; rw [if_pos c1]
    rw [e]
    refine ⟨by unfold Scalar; dsimp only; omega, ?_, c1.1⟩
    have : encN (nb l 0) = [nb l 0] := by unfold encN; rw [if_pos c1.2]
    rw [take1 c1.1, enc, this]
    simp only [List.map_cons, List.map_nil, of_nb l 0 rfl]
  by_cases c2 : 2 ≤ l.length ∧ 194 ≤ nb l 0 ∧ nb l 0 ≤ 223 ∧ 128 ≤ nb l 1 ∧ nb l 1 ≤ 191
  · have e : one l = ((nb l 0 - 192) * 64 + (nb l 1 - 128), 2) := by unfold one; rw [if_neg c1, if_pos c2]
    rw [e]
    refine ⟨by unfold Scalar; dsimp only; omega, ?_, c2.1⟩
    have h1 : ¬ (nb l 0 - 192) * 64 + (nb l 1 - 128) < 128 := by omega
    have h2 : (nb l 0 - 192) * 64 + (nb l 1 - 128) < 2048 := by omega
    dsimp only
    rw [take2 c2.1, enc, encN, if_neg h1, if_pos h2]
    simp only [List.map_cons, List.map_nil]
    rw [of_nb l 0 (by omega), of_nb l 1 (by omega)]
  by_cases c3 : 3 ≤ l.length ∧ 224 ≤ nb l 0 ∧ nb l 0 ≤ 239 ∧ 128 ≤ nb l 1 ∧ nb l 1 ≤ 191 ∧ 128 ≤ nb l 2 ∧ nb l 2 ≤ 191 ∧ (nb l 0 = 224 → 160 ≤ nb l 1) ∧ (nb l 0 = 237 → nb l 1 < 160)
  · have e : one l = ((nb l 0 - 224) * 4096 + (nb l 1 - 128) * 64 + (nb l 2 - 128), 3) := by unfold one; rw [if_neg c1, if_neg c2, if_pos c3]
    rw [e]
    refine ⟨by unfold Scalar; dsimp only; omega, ?_, c3.1⟩
    have h1 : ¬ (nb l 0 - 224) * 4096 + (nb l 1 - 128) * 64 + (nb l 2 - 128) < 128 := by omega
    have h2 : ¬ (nb l 0 - 224) * 4096 + (nb l 1 - 128) * 64 + (nb l 2 - 128) < 2048 := by omega
    have h3 : (nb l 0 - 224) * 4096 + (nb l 1 - 128) * 64 + (nb l 2 - 128) < 65536 := by omega
    dsimp only
    rw [take3 c3.1, enc, encN, if_neg h1, if_neg h2, if_pos h3]
    simp only [List.map_cons, List.map_nil]
    rw [of_nb l 0 (by omega), of_nb l 1 (by omega), of_nb l 2 (by omega)]
  by_cases c4 : 4 ≤ l.length ∧ 240 ≤ nb l 0 ∧ nb l 0 ≤ 244 ∧ 128 ≤ nb l 1 ∧ nb l 1 ≤ 191 ∧ 128 ≤ nb l 2 ∧ nb l 2 ≤ 191 ∧ 128 ≤ nb l 3 ∧ nb l 3 ≤ 191 ∧ (nb l 0 = 240 → 144 ≤ nb l 1) ∧ (nb l 0 = 244 → nb l 1 < 144)
  · have e : one l = ((nb l 0 - 240) * 262144 + (nb l 1 - 128) * 4096 + (nb l 2 - 128) * 64 + (nb l 3 - 128), 4) := by unfold one; rw [if_neg c1, if_neg c2, if_neg c3, if_pos c4]
    rw [e]
    refine ⟨by unfold Scalar; dsimp only; omega, ?_, c4.1⟩
    have h1 : ¬ (nb l 0 - 240) * 262144 + (nb l 1 - 128) * 4096 + (nb l 2 - 128) * 64 + (nb l 3 - 128) < 128 := by omega
    have h2 : ¬ (nb l 0 - 240) * 262144 + (nb l 1 - 128) * 4096 + (nb l 2 - 128) * 64 + (nb l 3 - 128) < 2048 := by omega
    have h3 : ¬ (nb l 0 - 240) * 262144 + (nb l 1 - 128) * 4096 + (nb l 2 - 128) * 64 + (nb l 3 - 128) < 65536 := by omega
    dsimp only
    rw [take4 c4.1, enc, encN, if_neg h1, if_neg h2, if_neg h3]
    simp only [List.map_cons, List.map_nil]
    rw [of_nb l 0 (by omega), of_nb l 1 (by omega), of_nb l 2 (by omega), of_nb l 3 (by omega)]
  · exfalso
    apply h
    unfold one
    rw [if_neg c1, if_neg c2, if_neg c3, if_neg c4]
theorem nbc {x : Nat} (h : x < 256) : (UInt8.ofNat x).toNat = x := by
  simp [UInt8.toNat_ofNat']; omega
/-- A scalar's bytes are told, whatever stands behind them. -/
theorem one_enc {c : Nat} (hc : Scalar c) (r : List UInt8) : one (enc c ++ r) = (c, (enc c).length) := by
  have hc' := hc
  unfold Scalar at hc'
  rcases enc_kinds hc with ⟨h1, e⟩ | ⟨h1, h2, e⟩ | ⟨h1, h2, e⟩ | ⟨h1, h2, e⟩
  · rw [e]
    have n0 : nb ([UInt8.ofNat c] ++ r) 0 = c := by simp only [nb, List.cons_append, List.getD_cons_zero]; exact nbc (by omega)
    unfold one
    rw [n0, if_pos ⟨by simp, h1⟩]
    rfl
  · rw [e]
    generalize hl : [UInt8.ofNat (192 + c / 64), UInt8.ofNat (128 + c % 64)] ++ r = l
    have n0 : nb l 0 = 192 + c / 64 := by rw [← hl]; simp only [nb, List.cons_append, List.getD_cons_zero]; exact nbc (by omega)
    have n1 : nb l 1 = 128 + c % 64 := by rw [← hl]; simp only [nb, List.cons_append, List.getD_cons_zero, List.getD_cons_succ]; exact nbc (by omega)
    have len : 2 ≤ l.length := by rw [← hl]; simp
    unfold one
    rw [n0, n1, if_neg (by omega), if_pos ⟨len, by omega, by omega, by omega, by omega⟩]
    exact Prod.ext (by dsimp only; omega) rfl
  · rw [e]
    generalize hl : [UInt8.ofNat (224 + c / 4096), UInt8.ofNat (128 + c / 64 % 64), UInt8.ofNat (128 + c % 64)] ++ r = l
    have n0 : nb l 0 = 224 + c / 4096 := by rw [← hl]; simp only [nb, List.cons_append, List.getD_cons_zero]; exact nbc (by omega)
    have n1 : nb l 1 = 128 + c / 64 % 64 := by rw [← hl]; simp only [nb, List.cons_append, List.getD_cons_zero, List.getD_cons_succ]; exact nbc (by omega)
    have n2 : nb l 2 = 128 + c % 64 := by rw [← hl]; simp only [nb, List.cons_append, List.getD_cons_zero, List.getD_cons_succ]; exact nbc (by omega)
    have len : 3 ≤ l.length := by rw [← hl]; simp
    unfold one
    rw [n0, n1, n2, if_neg (by omega), if_neg (by omega), if_pos ⟨len, by omega, by omega, by omega, by omega, by omega, by omega, by omega, by omega⟩]
    exact Prod.ext (by dsimp only; omega) rfl
  · rw [e]
    generalize hl : [UInt8.ofNat (240 + c / 262144), UInt8.ofNat (128 + c / 4096 % 64), UInt8.ofNat (128 + c / 64 % 64), UInt8.ofNat (128 + c % 64)] ++ r = l
    have n0 : nb l 0 = 240 + c / 262144 := by rw [← hl]; simp only [nb, List.cons_append, List.getD_cons_zero]; exact nbc (by omega)
    have n1 : nb l 1 = 128 + c / 4096 % 64 := by rw [← hl]; simp only [nb, List.cons_append, List.getD_cons_zero, List.getD_cons_succ]; exact nbc (by omega)
    have n2 : nb l 2 = 128 + c / 64 % 64 := by rw [← hl]; simp only [nb, List.cons_append, List.getD_cons_zero, List.getD_cons_succ]; exact nbc (by omega)
    have n3 : nb l 3 = 128 + c % 64 := by rw [← hl]; simp only [nb, List.cons_append, List.getD_cons_zero, List.getD_cons_succ]; exact nbc (by omega)
    have len : 4 ≤ l.length := by rw [← hl]; simp
    unfold one
    rw [n0, n1, n2, n3, if_neg (by omega), if_neg (by omega), if_neg (by omega), if_pos ⟨len, by omega, by omega, by omega, by omega, by omega, by omega, by omega, by omega, by omega, by omega⟩]
    exact Prod.ext (by dsimp only; omega) rfl
theorem one_of_take {c n : Nat} (hc : Scalar c) {l : List UInt8} (h : l.take n = enc c) (hn : n ≤ l.length) : one l = (c, n) := by
  have e : l = enc c ++ l.drop n := by rw [← h]; exact (List.take_append_drop n l).symm
  have hl : (enc c).length = n := by rw [← h, List.length_take]; omega
  rw [e, one_enc hc, hl]

/-! ### The scalars of a list, and where it goes wrong -/
/-- The scalars of l, each with its place, and the place where l goes wrong; l stands at place p. -/
def scan (p : Nat) (l : List UInt8) : List (Nat × Nat) × Option Nat :=
  if l = [] then ([], none)
  else if (one l).2 = 0 then ([], some p)
  else ((p, (one l).1) :: (scan (p + (one l).2) (l.drop (one l).2)).1, (scan (p + (one l).2) (l.drop (one l).2)).2)
termination_by l.length
decreasing_by
  all_goals
    have := List.length_pos_iff.2 (show l ≠ [] by assumption)
    simp only [List.length_drop]
    omega
def all (l : List UInt8) : List (Nat × Nat) := (scan 0 l).1
def bad (l : List UInt8) : Option Nat := (scan 0 l).2
/-- Bad's answer as a Go number. -/
def badI (l : List UInt8) : Int := match bad l with
  | none => -1
  | some p => p
theorem scan_nil (p : Nat) : scan p [] = ([], none) := by rw [scan]; simp
theorem scan_bad {p : Nat} {l : List UInt8} (h : l ≠ []) (h0 : (one l).2 = 0) : scan p l = ([], some p) := by rw [scan, if_neg h, if_pos h0]
theorem scan_step {p : Nat} {l : List UInt8} (h : l ≠ []) (h0 : (one l).2 ≠ 0) :
    scan p l = ((p, (one l).1) :: (scan (p + (one l).2) (l.drop (one l).2)).1, (scan (p + (one l).2) (l.drop (one l).2)).2) := by
  conv => lhs; rw [scan, if_neg h, if_neg h0]
theorem scan_enc {p c : Nat} (hc : Scalar c) (r : List UInt8) :
    scan p (enc c ++ r) = ((p, c) :: (scan (p + (enc c).length) r).1, (scan (p + (enc c).length) r).2) := by
  have h1 := enc_len (c := c)
  have hne : enc c ++ r ≠ [] := fun e => by have := congrArg List.length e; simp only [List.length_append, List.length_nil] at this; omega
  rw [scan_step hne (by rw [one_enc hc]; dsimp only; omega), one_enc hc]
  simp
/-- An induction along a list that is scanned. -/
theorem scan_cases (l : List UInt8) : l = [] ∨ (l ≠ [] ∧ (one l).2 = 0) ∨ ∃ c r, Scalar c ∧ l = enc c ++ r ∧ (one l) = (c, (enc c).length) ∧ r.length < l.length := by
  by_cases h : l = []
  · exact .inl h
  by_cases h0 : (one l).2 = 0
  · exact .inr (.inl ⟨h, h0⟩)
  · obtain ⟨h1, h2, h3⟩ := one_bytes h0
    have e : l = enc (one l).1 ++ l.drop (one l).2 := by rw [← h2]; exact (List.take_append_drop _ l).symm
    refine .inr (.inr ⟨(one l).1, l.drop (one l).2, h1, e, ?_, ?_⟩)
    · have hl : (enc (one l).1).length = (one l).2 := by rw [← h2, List.length_take]; omega
      rw [hl]
    · have := List.length_pos_iff.2 h
      simp only [List.length_drop]; omega
theorem scan_ind {M : List UInt8 → Prop} (h0 : M []) (hb : ∀ l, l ≠ [] → (one l).2 = 0 → M l) (hs : ∀ c r, Scalar c → M r → M (enc c ++ r)) : ∀ l, M l := by
  suffices ∀ n l, l.length ≤ n → M l from fun l => this l.length l (Nat.le_refl _)
  intro n
  induction n with
  | zero =>
    intro l hl
    obtain rfl : l = [] := List.length_eq_zero_iff.1 (by omega)
    exact h0
  | succ n ih =>
    intro l hl
    rcases scan_cases l with rfl | ⟨h1, h2⟩ | ⟨c, r, hc, rfl, _, hr⟩
    · exact h0
    · exact hb l h1 h2
    · exact hs c r hc (ih r (by omega))
theorem scan_shift (l : List UInt8) : ∀ p q, scan (p + q) l = ((scan p l).1.map (fun x => (x.1 + q, x.2)), (scan p l).2.map (· + q)) := by
  refine scan_ind (M := fun l => ∀ p q, scan (p + q) l = ((scan p l).1.map (fun x => (x.1 + q, x.2)), (scan p l).2.map (· + q))) ?_ ?_ ?_ l
  · intro p q; simp [scan_nil]
  · intro l h1 h2 p q; simp [scan_bad h1 h2]
  · intro c r hc ih p q
    rw [scan_enc hc, scan_enc hc]
    have := ih (p + (enc c).length) q
    rw [show p + q + (enc c).length = p + (enc c).length + q by omega, this]
    simp
theorem scan_one {c : Nat} (hc : Scalar c) : scan 0 (enc c) = ([(0, c)], none) := by
  have := scan_enc (p := 0) hc []
  rw [List.append_nil, scan_nil] at this
  exact this
theorem badI_neg (l : List UInt8) : badI l < 0 ↔ bad l = none := by
  unfold badI
  cases bad l with
  | none => simp
  | some p => simp

/-! ### The order -/
def lessN : List Nat → List Nat → Bool
  | _, [] => false
  | [], _ :: _ => true
  | a :: x, b :: y => a < b || (a == b && lessN x y)
theorem bytesLess_lessN : ∀ a b : List UInt8, Op.bytesLess a b = lessN (a.map UInt8.toNat) (b.map UInt8.toNat)
  | [], [] => by simp [Op.bytesLess, lessN]
  | _ :: _, [] => by simp [Op.bytesLess, lessN]
  | [], _ :: _ => by simp [Op.bytesLess, lessN]
  | a :: x, b :: y => by
    simp only [Op.bytesLess, List.map_cons, lessN, bytesLess_lessN x y]
    congr 1
    congr 1
    rw [Bool.eq_iff_iff]
    simp [UInt8.toNat_inj]
theorem lessN_append (u : List Nat) : ∀ x y, lessN (u ++ x) (u ++ y) = lessN x y := by
  induction u with
  | nil => intro x y; rfl
  | cons a u ih => intro x y; simp [lessN, ih]
theorem enc_toNat {c : Nat} (hc : Scalar c) : (enc c).map UInt8.toNat = encN c := by
  have hc' := hc
  unfold Scalar at hc'
  unfold enc encN
  split
  · simp; omega
  split
  · simp; omega
  split
  · simp; omega
  · simp; omega
theorem encN_kinds {c : Nat} (hc : Scalar c) :
    (c < 128 ∧ encN c = [c]) ∨ (128 ≤ c ∧ c < 2048 ∧ encN c = [192 + c / 64, 128 + c % 64]) ∨
    (2048 ≤ c ∧ c < 65536 ∧ encN c = [224 + c / 4096, 128 + c / 64 % 64, 128 + c % 64]) ∨
    (65536 ≤ c ∧ c ≤ 1114111 ∧ encN c = [240 + c / 262144, 128 + c / 4096 % 64, 128 + c / 64 % 64, 128 + c % 64]) := by
  unfold Scalar at hc
  unfold encN
  by_cases h1 : c < 128
  · simp [h1]
  by_cases h2 : c < 2048
  · simp [h1, h2]; omega
  by_cases h3 : c < 65536
  · simp [h1, h2, h3]; omega
  · simp [h1, h2, h3]; omega
/-- Two different scalars' bytes are in the scalars' order, whatever stands behind them. -/
theorem lessN_enc {c d : Nat} (hc : Scalar c) (hd : Scalar d) (hne : c ≠ d) (x y : List Nat) : lessN (encN c ++ x) (encN d ++ y) = decide (c < d) := by
  rcases encN_kinds hc with ⟨h1, e⟩ | ⟨h1, h2, e⟩ | ⟨h1, h2, e⟩ | ⟨h1, h2, e⟩ <;>
  rcases encN_kinds hd with ⟨k1, f⟩ | ⟨k1, k2, f⟩ | ⟨k1, k2, f⟩ | ⟨k1, k2, f⟩ <;>
  (rw [e, f, Bool.eq_iff_iff]; simp only [List.cons_append, List.nil_append, lessN, Bool.or_eq_true, Bool.and_eq_true, beq_iff_eq, decide_eq_true_eq]; omega)
/-- Two texts are in the order of their scalars. -/
theorem order (a : List UInt8) : ∀ b p q, (scan p a).2 = none → (scan q b).2 = none →
    Op.bytesLess a b = lessN ((scan p a).1.map (·.2)) ((scan q b).1.map (·.2)) ∧ (a = b ↔ (scan p a).1.map (·.2) = (scan q b).1.map (·.2)) := by
  refine scan_ind (M := fun a => ∀ b p q, (scan p a).2 = none → (scan q b).2 = none →
    Op.bytesLess a b = lessN ((scan p a).1.map (·.2)) ((scan q b).1.map (·.2)) ∧ (a = b ↔ (scan p a).1.map (·.2) = (scan q b).1.map (·.2))) ?_ ?_ ?_ a
  · intro b p q _ hb
    rw [scan_nil]
    rcases scan_cases b with rfl | ⟨h1, h2⟩ | ⟨d, s, hd, rfl, _, _⟩
    · simp [scan_nil, Op.bytesLess, lessN]
    · rw [scan_bad h1 h2] at hb; cases hb
    · rw [scan_enc hd]
      have h1 := enc_len (c := d)
      generalize hh : enc d = e at h1
      cases e with
      | nil => simp at h1
      | cons z e => simp [Op.bytesLess, lessN]
  · intro l h1 h2 b p q h
    rw [scan_bad h1 h2] at h; cases h
  · intro c r hc ih b p q ha hb
    rw [scan_enc hc] at ha ⊢
    rcases scan_cases b with rfl | ⟨h1, h2⟩ | ⟨d, s, hd, rfl, _, _⟩
    · rw [scan_nil]
      have h1 := enc_len (c := c)
      generalize hh : enc c = e at h1
      cases e with
      | nil => simp at h1
      | cons z e => simp [Op.bytesLess, lessN]
    · rw [scan_bad h1 h2] at hb; cases hb
    · rw [scan_enc hd] at hb ⊢
      by_cases hcd : c = d
      · subst hcd
        obtain ⟨i1, i2⟩ := ih s (p + (enc c).length) (q + (enc c).length) ha hb
        refine ⟨?_, ?_⟩
        · rw [bytesLess_lessN] at i1 ⊢
          rw [List.map_append, List.map_append, lessN_append, i1]
          simp [lessN]
        · simp [i2]
      · refine ⟨?_, ?_⟩
        · rw [bytesLess_lessN, List.map_append, List.map_append, enc_toNat hc, enc_toNat hd, lessN_enc hc hd hcd]
          simp [lessN, hcd]
        · simp only [List.map_cons, List.cons.injEq, hcd, false_and, iff_false]
          intro e
          have o1 := one_enc hc r
          rw [e, one_enc hd] at o1
          exact hcd (Prod.mk.inj o1).1.symm
end Go.Proofs.YtlfbnfphocpgeaaGreatDoor.Utf
namespace Go.Proofs.YtlfbnfphocpgeaaGreatDoor.Utf
open Go.RowKit
theorem at_nb (s : ByteArray) (i : Nat) (h : i < s.size) : (s[i]'h).toNat = nb s.data.toList i := by
  have h' : i < s.data.toList.length := by simpa using h
  simp only [nb, List.getD_eq_getElem?_getD, List.getElem?_eq_getElem h', Option.getD_some]
  rfl
theorem extract_rest (s : ByteArray) (k : Nat) : (s.extract k s.size).data.toList = s.data.toList.drop k := by
  have h : s.data.toList.length = s.size := by simp
  rw [ByteArray.data_extract, Array.toList_extract, List.extract_eq_take_drop]
  exact List.take_of_length_le (by rw [List.length_drop, h]; omega)
/-- What stands behind place k is told on from there. -/
theorem scan_at {l : List UInt8} {k : Nat} (hk : k < l.length) :
    ((one (l.drop k)).2 = 0 ∧ scan k (l.drop k) = ([], some k)) ∨
    ((one (l.drop k)).2 ≠ 0 ∧ 1 ≤ (one (l.drop k)).2 ∧ k + (one (l.drop k)).2 ≤ l.length ∧
      scan k (l.drop k) = ((k, (one (l.drop k)).1) :: (scan (k + (one (l.drop k)).2) (l.drop (k + (one (l.drop k)).2))).1, (scan (k + (one (l.drop k)).2) (l.drop (k + (one (l.drop k)).2))).2)) := by
  have hne : l.drop k ≠ [] := fun e => by have := congrArg List.length e; simp only [List.length_drop, List.length_nil] at this; omega
  by_cases h0 : (one (l.drop k)).2 = 0
  · exact .inl ⟨h0, scan_bad hne h0⟩
  · obtain ⟨_, _, h3⟩ := one_bytes h0
    rw [List.length_drop] at h3
    refine .inr ⟨h0, by omega, by omega, ?_⟩
    rw [scan_step hne h0, List.drop_drop]
/-- What Put writes. -/
def putL (c : Int) : List UInt8 := if 0 ≤ c ∧ c ≤ 1114111 ∧ (c < 55296 ∨ 57343 < c) then enc c.toNat else []
end Go.Proofs.YtlfbnfphocpgeaaGreatDoor.Utf
namespace Go.Proofs.YtlfbnfphocpgeaaGreatDoor.Tre
open Num (Dec zero)
/-- A value: its kind, whether it holds, its number, its text, its keys, its kids. -/
inductive Val where
  | mk (kind : Int) (is : Bool) (num : Dec) (str : List UInt8) (keys : List (List UInt8)) (kids : List Val)
def Val.kind : Val → Int | ⟨k, _, _, _, _, _⟩ => k
def Val.is : Val → Bool | ⟨_, i, _, _, _, _⟩ => i
def Val.num : Val → Dec | ⟨_, _, n, _, _, _⟩ => n
def Val.str : Val → List UInt8 | ⟨_, _, _, s, _, _⟩ => s
def Val.keys : Val → List (List UInt8) | ⟨_, _, _, _, ks, _⟩ => ks
def Val.kids : Val → List Val | ⟨_, _, _, _, _, vs⟩ => vs
def none' : Val := ⟨0, false, zero, [], [], []⟩
mutual
def deep : Val → Nat
  | ⟨k, _, _, _, _, vs⟩ => (if k = 5 ∨ k = 6 then deeps vs else 0) + 1
def deeps : List Val → Nat
  | [] => 0
  | v :: r => max (deep v) (deeps r)
end
/-- Right, but for how deep it is, and its kids. -/
def Own (v : Val) : Prop :=
  1 ≤ v.kind ∧ v.kind ≤ 6 ∧ (v.kind ≠ 2 → v.is = false) ∧ (v.kind ≠ 3 → v.num = zero) ∧ (v.kind ≠ 4 → v.str = []) ∧ (v.kind < 5 → v.kids = []) ∧ (v.kind ≠ 6 → v.keys = []) ∧
    Num.Right v.num ∧ Utf.bad v.str = none ∧ (v.kind = 6 → v.keys.length = v.kids.length) ∧ (∀ k ∈ v.keys, Utf.bad k = none) ∧ v.keys.Nodup
mutual
def Whole : Val → Prop
  | ⟨k, i, n, s, ks, vs⟩ => Own ⟨k, i, n, s, ks, vs⟩ ∧ Wholes vs
def Wholes : List Val → Prop
  | [] => True
  | v :: r => Whole v ∧ Wholes r
end
def Right (v : Val) : Prop := deep v ≤ 64 ∧ Whole v
theorem deeps_le {vs : List Val} {d : Nat} : deeps vs ≤ d ↔ ∀ v ∈ vs, deep v ≤ d := by
  induction vs with
  | nil => simp [deeps]
  | cons v r ih =>
    rw [deeps, Nat.max_le, ih]
    simp
theorem wholes_iff {vs : List Val} : Wholes vs ↔ ∀ v ∈ vs, Whole v := by
  induction vs with
  | nil => simp [Wholes]
  | cons v r ih =>
    rw [Wholes, ih]
    simp
theorem whole_iff {v : Val} : Whole v ↔ Own v ∧ ∀ x ∈ v.kids, Whole x := by
  obtain ⟨k, i, n, s, ks, vs⟩ := v
  rw [Whole, wholes_iff]
  rfl
theorem deep_eq (v : Val) : deep v = (if v.kind = 5 ∨ v.kind = 6 then deeps v.kids else 0) + 1 := by
  obtain ⟨k, i, n, s, ks, vs⟩ := v
  rw [deep]
  rfl
/-- Texts by their bytes. -/
abbrev less := Op.bytesLess
theorem less_self (a : List UInt8) : less a a = false := by
  induction a with
  | nil => rfl
  | cons c l ih =>
    unfold less at ih ⊢
    unfold Op.bytesLess
    rw [ih]
    simp
theorem less_trans : ∀ {a b c : List UInt8}, less a b = true → less b c = true → less a c = true
  | [], [], _, h, _ => by simp [less, Op.bytesLess] at h
  | _ :: _, [], _, h, _ => by simp [less, Op.bytesLess] at h
  | _, _ :: _, [], _, h => by simp [less, Op.bytesLess] at h
  | [], _ :: _, _ :: _, _, _ => rfl
  | x :: a, y :: b, z :: c, h1, h2 => by
    have ih := @less_trans a b c
    unfold less at *
    simp only [Op.bytesLess, Bool.or_eq_true, Bool.and_eq_true, decide_eq_true_eq, beq_iff_eq] at *
    rcases h1 with h1 | ⟨rfl, h1⟩
    · rcases h2 with h2 | ⟨rfl, h2⟩
      · exact .inl (UInt8.lt_trans h1 h2)
      · exact .inl h1
    · rcases h2 with h2 | ⟨rfl, h2⟩
      · exact .inl h2
      · exact .inr ⟨rfl, ih h1 h2⟩
theorem less_total : ∀ {a b : List UInt8}, a ≠ b → less a b = false → less b a = true
  | [], [], h, _ => absurd rfl h
  | [], _ :: _, _, h => by simp [less, Op.bytesLess] at h
  | _ :: _, [], _, _ => rfl
  | x :: a, y :: b, h, h1 => by
    have ih := @less_total a b
    unfold less at *
    simp only [Op.bytesLess, Bool.or_eq_true, Bool.or_eq_false_iff, Bool.and_eq_false_iff, Bool.and_eq_true, decide_eq_true_eq, decide_eq_false_iff_not, beq_iff_eq, beq_eq_false_iff_ne] at *
    by_cases e : x = y
    · subst e
      refine .inr ⟨rfl, ih (fun e => h (by rw [e])) ?_⟩
      rcases h1.2 with h2 | h2
      · exact absurd rfl h2
      · exact h2
    · refine .inl ?_
      have h3 := h1.1
      rw [UInt8.lt_iff_toNat_lt] at h3 ⊢
      have : x.toNat ≠ y.toNat := fun e' => e (UInt8.toNat_inj.1 e')
      omega
/-- Pairs of a key and its kid, by keys. -/
def ins (p : List UInt8 × Val) : List (List UInt8 × Val) → List (List UInt8 × Val)
  | [] => [p]
  | q :: r => if less p.1 q.1 then p :: q :: r else q :: ins p r
def sortP (l : List (List UInt8 × Val)) : List (List UInt8 × Val) := l.foldr ins []
mutual
def sort : Val → Val
  | ⟨k, i, n, s, ks, vs⟩ => if k = 6 then ⟨k, i, n, s, (sortP (ks.zip (sorts vs))).map (·.1), (sortP (ks.zip (sorts vs))).map (·.2)⟩ else ⟨k, i, n, s, [], sorts vs⟩
def sorts : List Val → List Val
  | [] => []
  | v :: r => sort v :: sorts r
end
theorem sorts_map (vs : List Val) : sorts vs = vs.map sort := by
  induction vs with
  | nil => rfl
  | cons v r ih => rw [sorts, ih, List.map_cons]
mutual
/-- A value, and all in it, each with how deep it lies. -/
def walk (d : Nat) : Val → List (Nat × Val)
  | ⟨k, i, n, s, ks, vs⟩ => (d, ⟨k, i, n, s, ks, vs⟩) :: walks (d + 1) vs
def walks (d : Nat) : List Val → List (Nat × Val)
  | [] => []
  | v :: r => walk d v ++ walks d r
end
end Go.Proofs.YtlfbnfphocpgeaaGreatDoor.Tre
namespace Go.Proofs.YtlfbnfphocpgeaaGreatDoor.Tre
open Num (Dec zero)
abbrev Row := List UInt8 × Val
/-- Keys rise. -/
def Rises (l : List Row) : Prop := l.Pairwise fun a b => less a.1 b.1 = true
theorem ins_perm (p : Row) : ∀ l : List Row, (ins p l).Perm (p :: l)
  | [] => .refl _
  | q :: r => by
    unfold ins
    split
    · exact .refl _
    · exact ((ins_perm p r).cons q).trans (.swap p q r)
theorem sortP_perm : ∀ l : List Row, (sortP l).Perm l
  | [] => .refl _
  | p :: l => (ins_perm p (sortP l)).trans ((sortP_perm l).cons p)
theorem ins_rises {p : Row} : ∀ {l : List Row}, Rises l → (∀ q ∈ l, p.1 ≠ q.1) → Rises (ins p l)
  | [], _, _ => List.pairwise_singleton _ _
  | q :: r, h, hne => by
    unfold Rises at h
    rw [List.pairwise_cons] at h
    unfold ins
    by_cases hl : less p.1 q.1 = true
    · rw [if_pos hl]
      unfold Rises
      rw [List.pairwise_cons, List.pairwise_cons]
      refine ⟨fun x hx => ?_, h⟩
      rcases List.mem_cons.1 hx with rfl | hx
      · exact hl
      · exact less_trans hl (h.1 x hx)
    · rw [if_neg hl]
      unfold Rises
      rw [List.pairwise_cons]
      refine ⟨fun x hx => ?_, ins_rises h.2 fun y hy => hne y (List.mem_cons_of_mem _ hy)⟩
      rcases List.mem_cons.1 ((ins_perm p r).mem_iff.1 hx) with rfl | hx
      · exact less_total (hne q (List.mem_cons_self ..)) (by simpa using hl)
      · exact h.1 x hx
theorem sortP_rises : ∀ {l : List Row}, (l.map (·.1)).Nodup → Rises (sortP l)
  | [], _ => List.Pairwise.nil
  | p :: l, h => by
    rw [List.map_cons, List.nodup_cons] at h
    refine ins_rises (sortP_rises h.2) fun q hq e => h.1 ?_
    rw [e]
    exact List.mem_map_of_mem ((sortP_perm l).mem_iff.1 hq)
/-- One list alone has the same rows, with keys that rise. -/
theorem rises_one : ∀ {a b : List Row}, Rises a → Rises b → a.Perm b → a = b
  | [], b, _, _, h => (List.nil_perm.1 h).symm
  | x :: a, [], _, _, h => absurd (List.perm_nil.1 h) (by simp)
  | x :: a, y :: b, ha, hb, h => by
    unfold Rises at ha hb
    rw [List.pairwise_cons] at ha hb
    have e : x = y := by
      rcases List.mem_cons.1 (h.mem_iff.1 (List.mem_cons_self ..)) with e | hx
      · exact e
      · rcases List.mem_cons.1 (h.mem_iff.2 (List.mem_cons_self ..)) with e | hy
        · exact e.symm
        · have h1 := less_trans (hb.1 x hx) (ha.1 y hy)
          rw [less_self] at h1
          cases h1
    subst e
    rw [rises_one ha.2 hb.2 ((List.perm_cons x).1 h)]
theorem zip_map_fst {α β : Type} : ∀ {a : List α} {b : List β}, a.length = b.length → (a.zip b).map (·.1) = a
  | [], [], _ => rfl
  | x :: a, y :: b, h => by
    rw [List.zip_cons_cons, List.map_cons, zip_map_fst (by simpa using h)]
theorem zip_map_snd {α β : Type} : ∀ {a : List α} {b : List β}, a.length = b.length → (a.zip b).map (·.2) = b
  | [], [], _ => rfl
  | x :: a, y :: b, h => by
    rw [List.zip_cons_cons, List.map_cons, zip_map_snd (by simpa using h)]
/-- The rows of an object. -/
def rows (ks : List (List UInt8)) (vs : List Val) : List Row := sortP (ks.zip (sorts vs))
theorem sort_eq (v : Val) : sort v = if v.kind = 6 then ⟨v.kind, v.is, v.num, v.str, (rows v.keys v.kids).map (·.1), (rows v.keys v.kids).map (·.2)⟩ else ⟨v.kind, v.is, v.num, v.str, [], sorts v.kids⟩ := by
  obtain ⟨k, i, n, s, ks, vs⟩ := v
  rw [sort]
  rfl
theorem sorts_len (vs : List Val) : (sorts vs).length = vs.length := by rw [sorts_map, List.length_map]
theorem rows_keys {ks : List (List UInt8)} {vs : List Val} (h : ks.length = vs.length) : ((rows ks vs).map (·.1)).Perm ks := by
  have := (sortP_perm (ks.zip (sorts vs))).map (·.1)
  rwa [zip_map_fst (by rw [sorts_len, h])] at this
theorem rows_kids {ks : List (List UInt8)} {vs : List Val} (h : ks.length = vs.length) : ((rows ks vs).map (·.2)).Perm (sorts vs) := by
  have := (sortP_perm (ks.zip (sorts vs))).map (·.2)
  rwa [zip_map_snd (by rw [sorts_len, h])] at this
theorem rows_rises {ks : List (List UInt8)} {vs : List Val} (h : ks.length = vs.length) (hn : ks.Nodup) : Rises (rows ks vs) :=
  sortP_rises (by rwa [zip_map_fst (by rw [sorts_len, h])])
theorem deeps_perm {a b : List Val} (h : a.Perm b) : deeps a = deeps b :=
  Nat.le_antisymm (deeps_le.2 fun v hv => deeps_le.1 (Nat.le_refl _) v (h.mem_iff.1 hv)) (deeps_le.2 fun v hv => deeps_le.1 (Nat.le_refl _) v (h.mem_iff.2 hv))
mutual
theorem sort_deep : ∀ v : Val, Whole v → deep (sort v) = deep v
  | ⟨k, i, n, s, ks, vs⟩, h => by
    rw [Whole] at h
    have hd := sorts_deep vs h.2
    rw [sort]
    by_cases h6 : k = 6
    · have hl : ks.length = vs.length := h.1.2.2.2.2.2.2.2.2.2.1 h6
      have hp := deeps_perm (rows_kids hl)
      unfold rows at hp
      rw [if_pos h6, deep, deep, hp, hd]
    · rw [if_neg h6, deep, deep, hd]
theorem sorts_deep : ∀ vs : List Val, Wholes vs → deeps (sorts vs) = deeps vs
  | [], _ => rfl
  | v :: r, h => by
    rw [Wholes] at h
    rw [sorts, deeps, deeps, sort_deep v h.1, sorts_deep r h.2]
end
mutual
theorem sort_whole : ∀ v : Val, Whole v → Whole (sort v)
  | ⟨k, i, n, s, ks, vs⟩, h => by
    rw [Whole] at h
    have hd := sorts_whole vs h.2
    obtain ⟨h1, h2, h3, h4, h5, h6, h7, h8, h9, h10, h11, h12⟩ := h.1
    rw [sort]
    by_cases hk : k = 6
    · rw [if_pos hk, Whole, wholes_iff]
      have hl := h10 hk
      refine ⟨⟨h1, h2, h3, h4, h5, ?_, fun e => absurd hk e, h8, h9, ?_, ?_, ?_⟩, fun v hv => wholes_iff.1 hd v ((rows_kids hl).mem_iff.1 hv)⟩
      · intro e
        exact absurd e (by show ¬ k < 5; omega)
      · intro _
        show ((rows ks vs).map (·.1)).length = ((rows ks vs).map (·.2)).length
        rw [List.length_map, List.length_map]
      · intro q hq
        exact h11 q ((rows_keys hl).mem_iff.1 hq)
      · exact (rows_keys hl).nodup_iff.2 h12
    · rw [if_neg hk, Whole]
      refine ⟨⟨h1, h2, h3, h4, h5, fun e => ?_, fun _ => rfl, h8, h9, fun e => absurd e hk, fun q hq => absurd hq List.not_mem_nil, List.nodup_nil⟩, hd⟩
      have hvs : vs = [] := h6 e
      subst hvs
      rfl
theorem sorts_whole : ∀ vs : List Val, Wholes vs → Wholes (sorts vs)
  | [], _ => trivial
  | v :: r, h => by
    rw [Wholes] at h
    rw [sorts, Wholes]
    exact ⟨sort_whole v h.1, sorts_whole r h.2⟩
end
theorem sort_right {v : Val} (h : Right v) : Right (sort v) := ⟨by rw [sort_deep v h.2]; exact h.1, sort_whole v h.2⟩
end Go.Proofs.YtlfbnfphocpgeaaGreatDoor.Tre
namespace Go.Proofs.YtlfbnfphocpgeaaGreatDoor.Num
/-- A whole number's digits. -/
def digits (n : Nat) : List UInt8 := if n < 10 then [UInt8.ofNat (48 + n)] else digits (n / 10) ++ [UInt8.ofNat (48 + n % 10)]
termination_by n
decreasing_by omega
theorem digits_lo {n : Nat} (h : n < 10) : digits n = [UInt8.ofNat (48 + n)] := by rw [digits, if_pos h]
theorem digits_hi {n : Nat} (h : 10 ≤ n) : digits n = digits (n / 10) ++ [UInt8.ofNat (48 + n % 10)] := by rw [digits, if_neg (by omega)]
theorem ofNat_dig {x : Nat} (h : x < 10) : (UInt8.ofNat (48 + x)).toNat = 48 + x := by
  rw [UInt8.toNat_ofNat']
  omega
theorem digits_ne (n : Nat) : digits n ≠ [] := by
  by_cases h : n < 10
  · rw [digits_lo h]; simp
  · rw [digits_hi (by omega)]; simp
theorem digits_dg : ∀ (n : Nat), ∀ c ∈ digits n, dg c = true := by
  intro n
  induction n using Nat.strongRecOn with
  | ind n ih =>
    intro c hc
    by_cases h : n < 10
    · rw [digits_lo h, List.mem_singleton] at hc
      subst hc
      have := ofNat_dig h
      simp only [dg, decide_eq_true_eq]
      omega
    · rw [digits_hi (by omega)] at hc
      rcases List.mem_append.1 hc with hc | hc
      · exact ih (n / 10) (by omega) c hc
      · rw [List.mem_singleton] at hc
        subst hc
        have := ofNat_dig (x := n % 10) (by omega)
        simp only [dg, decide_eq_true_eq]
        omega
theorem valD_snoc (d : List UInt8) (c : UInt8) : valD (d ++ [c]) = valD d * 10 + (c.toNat - 48) := by simp [valD]
theorem valD_digits : ∀ (n : Nat), valD (digits n) = n := by
  intro n
  induction n using Nat.strongRecOn with
  | ind n ih =>
    by_cases h : n < 10
    · rw [digits_lo h]
      show 0 * 10 + ((UInt8.ofNat (48 + n)).toNat - 48) = n
      rw [ofNat_dig h]
      omega
    · rw [digits_hi (by omega), valD_snoc, ih (n / 10) (by omega), ofNat_dig (by omega)]
      omega
theorem digits_len : ∀ (n k : Nat), n < 10 ^ k → 0 < k → (digits n).length ≤ k := by
  intro n
  induction n using Nat.strongRecOn with
  | ind n ih =>
    intro k hk h0
    by_cases h : n < 10
    · rw [digits_lo h]; simp; omega
    · rw [digits_hi (by omega), List.length_append]
      have h1 : 10 ^ k = 10 ^ (k - 1) * 10 := by rw [← Nat.pow_succ]; congr 1; omega
      have h2 : 0 < k - 1 := by
        by_cases e : k = 1
        · subst e; omega
        · omega
      have := ih (n / 10) (by omega) (k - 1) (by omega) h2
      simp
      omega
def noughts (n : Nat) : List UInt8 := List.replicate n 48
theorem noughts_dg (n : Nat) : ∀ c ∈ noughts n, dg c = true := by
  intro c hc
  rw [List.eq_of_mem_replicate hc]
  decide
theorem noughts_len (n : Nat) : (noughts n).length = n := List.length_replicate
/-- The print. -/
def print (n : Dec) : List UInt8 :=
  if ¬ Right n then []
  else if n.dig = [] then [48]
  else if 20 < n.exp then negT n.neg ++ (n.dig ++ (101 :: digits n.exp.toNat))
  else if n.exp < -20 then negT n.neg ++ (n.dig ++ (101 :: 45 :: digits (-n.exp).toNat))
  else if 0 ≤ n.exp then negT n.neg ++ (n.dig ++ noughts n.exp.toNat)
  else if -n.exp < n.dig.length then negT n.neg ++ (n.dig.take (n.dig.length - (-n.exp).toNat) ++ (46 :: n.dig.drop (n.dig.length - (-n.exp).toNat)))
  else negT n.neg ++ (48 :: 46 :: (noughts ((-n.exp).toNat - n.dig.length) ++ n.dig))
theorem dropZ_noughts (n : Nat) (D : List UInt8) : (noughts n ++ D).dropWhile z48 = D.dropWhile z48 := by
  induction n with
  | zero => rfl
  | succ n ih =>
    unfold noughts at *
    rw [List.replicate_succ, List.cons_append, List.dropWhile_cons, if_pos (by decide), ih]
theorem dropZ_head {D : List UInt8} (h : D.head? ≠ some 48) : D.dropWhile z48 = D := by
  match D, h with
  | [], _ => rfl
  | c :: D, h =>
    rw [List.dropWhile_cons, if_neg]
    simpa [z48] using h
theorem strip_noughts (n : Nat) (d : List UInt8) (e : Int) : strip (d ++ noughts n) e = strip d (e + n) := by
  induction n generalizing e with
  | zero => simp [noughts]
  | succ n ih =>
    have h1 : d ++ noughts (n + 1) = (d ++ noughts n) ++ [48] := by
      unfold noughts
      rw [List.replicate_succ', List.append_assoc]
    rw [h1, strip_on (by have := nb_app (d ++ noughts n) [48] 0; simp at this ⊢; rw [this]; rfl), List.dropLast_concat, ih]
    congr 1
    omega
theorem norm_noughts (neg : Bool) (n : Nat) (d : List UInt8) (e : Int) : norm neg (d ++ noughts n) e = norm neg d (e + n) := by
  unfold norm
  rw [strip_noughts]
theorem right_head {n : Dec} (h : Right n) (h0 : n.dig ≠ []) : n.dig.head? ≠ some 48 ∧ nb n.dig 0 ≠ 48 ∧ nb n.dig (n.dig.length - 1) ≠ 48 ∧ (∀ c ∈ n.dig, dg c = true) ∧ n.dig.length ≤ 1000 ∧ -10000 ≤ n.exp ∧ n.exp ≤ 10000 := by
  unfold Right at h
  rw [if_neg h0] at h
  refine ⟨?_, h.2.2.2.2.1, h.2.2.2.2.2, h.2.2.2.1, h.1, h.2.1, h.2.2.1⟩
  obtain ⟨c, r, e⟩ := List.exists_cons_of_ne_nil h0
  have h1 := h.2.2.2.2.1
  rw [e] at h1 ⊢
  intro e2
  simp at e2
  subst e2
  exact h1 rfl
theorem norm_right {n : Dec} (h : Right n) (h0 : n.dig ≠ []) : norm n.neg n.dig n.exp = (n, 0) := by
  have hh := right_head h h0
  unfold norm
  rw [strip_stop hh.2.2.1, if_neg h0, if_pos h]
theorem digits_val {x : Nat} (h : x ≤ 10000) : valD (digits x) < 1000000000 := by rw [valD_digits]; omega
/-- What is printed is a text of the number. -/
theorem print_text {n : Dec} (h : Right n) : ∃ I F x, Parts I F x ∧ print n = text n.neg I F x ∧ (∀ m s E, x = some (m, s, E) → valD E < 1000000000) ∧ norm n.neg ((I ++ F).dropWhile z48) (expV x - F.length) = (n, 0) := by
  by_cases h0 : n.dig = []
  · have hz : n = zero := by
      have h1 := h
      unfold Right at h1
      rw [if_pos h0] at h1
      cases n
      simp_all [zero]
    subst hz
    refine ⟨[48], [], none, ⟨by simp, by decide, .inl rfl, by simp, by simp⟩, by decide, by simp, by decide⟩
  · obtain ⟨hh, hn0, hnl, hd, hlen, he0, he1⟩ := right_head h h0
    have hnr := norm_right h h0
    unfold print
    rw [if_neg (not_not_intro h), if_neg h0]
    by_cases c1 : 20 < n.exp
    · rw [if_pos c1]
      refine ⟨n.dig, [], some (101, [], digits n.exp.toNat), ⟨h0, hd, .inr hh, by simp, ?_⟩, ?_, ?_, ?_⟩
      · intro m s E e
        injection e with e
        injection e with e1 e2
        injection e2 with e2 e3
        subst e1; subst e2; subst e3
        exact ⟨.inl rfl, .inl rfl, digits_ne _, digits_dg _⟩
      · simp [text, fracT, expT]
      · intro m s E e
        injection e with e
        injection e with e1 e2
        injection e2 with e2 e3
        subst e3
        exact digits_val (by omega)
      · rw [List.append_nil, dropZ_head hh]
        simp only [expV, valD_digits, List.length_nil]
        rw [if_neg (by simp)]
        rw [show ((n.exp.toNat : Int) - (0 : Nat)) = n.exp by omega]
        exact hnr
    · rw [if_neg c1]
      by_cases c2 : n.exp < -20
      · rw [if_pos c2]
        refine ⟨n.dig, [], some (101, [45], digits (-n.exp).toNat), ⟨h0, hd, .inr hh, by simp, ?_⟩, ?_, ?_, ?_⟩
        · intro m s E e
          injection e with e
          injection e with e1 e2
          injection e2 with e2 e3
          subst e1; subst e2; subst e3
          exact ⟨.inl rfl, .inr (.inr rfl), digits_ne _, digits_dg _⟩
        · simp [text, fracT, expT]
        · intro m s E e
          injection e with e
          injection e with e1 e2
          injection e2 with e2 e3
          subst e3
          exact digits_val (by omega)
        · rw [List.append_nil, dropZ_head hh]
          simp only [expV, valD_digits, List.length_nil]
          simp only [if_true]
          rw [show (-((-n.exp).toNat : Int) - (0 : Nat)) = n.exp by omega]
          exact hnr
      · rw [if_neg c2]
        by_cases c3 : 0 ≤ n.exp
        · rw [if_pos c3]
          refine ⟨n.dig ++ noughts n.exp.toNat, [], none, ⟨by simp [h0], ?_, .inr ?_, by simp, by simp⟩, ?_, by simp, ?_⟩
          · intro c hc
            rcases List.mem_append.1 hc with hc | hc
            · exact hd c hc
            · exact noughts_dg _ c hc
          · obtain ⟨c, r, e⟩ := List.exists_cons_of_ne_nil h0
            rw [e] at hh ⊢
            simpa using hh
          · simp [text, fracT, expT]
          · have : (n.dig ++ noughts n.exp.toNat).dropWhile z48 = n.dig ++ noughts n.exp.toNat := dropZ_head (by
              obtain ⟨c, r, e⟩ := List.exists_cons_of_ne_nil h0
              rw [e] at hh ⊢
              simpa using hh)
            rw [List.append_nil, this, norm_noughts]
            simp only [expV, List.length_nil]
            rw [show ((0 : Int) - (0 : Nat) + (n.exp.toNat : Int)) = n.exp by omega]
            exact hnr
        · rw [if_neg c3]
          by_cases c4 : -n.exp < n.dig.length
          · rw [if_pos c4]
            obtain ⟨q, hq⟩ : ∃ q, n.dig.length - (-n.exp).toNat = q := ⟨_, rfl⟩
            rw [hq]
            have hF : n.dig.drop q ≠ [] := by
              intro e
              have := congrArg List.length e
              rw [List.length_drop] at this
              simp at this
              omega
            refine ⟨n.dig.take q, n.dig.drop q, none, ⟨?_, fun c hc => hd c (List.mem_of_mem_take hc), .inr ?_, fun c hc => hd c (List.mem_of_mem_drop hc), by simp⟩, ?_, by simp, ?_⟩
            · intro e
              have := congrArg List.length e
              rw [List.length_take, List.length_nil] at this
              omega
            · rw [List.head?_take, if_neg (by omega)]
              exact hh
            · simp [text, fracT, expT, hF]
            · rw [List.take_append_drop, dropZ_head hh, List.length_drop]
              simp only [expV]
              rw [show ((0 : Int) - ((n.dig.length - q : Nat) : Int)) = n.exp by omega]
              exact hnr
          · rw [if_neg c4]
            refine ⟨[48], noughts ((-n.exp).toNat - n.dig.length) ++ n.dig, none, ⟨by simp, by decide, .inl rfl, ?_, by simp⟩, ?_, by simp, ?_⟩
            · intro c hc
              rcases List.mem_append.1 hc with hc | hc
              · exact noughts_dg _ c hc
              · exact hd c hc
            · have : noughts ((-n.exp).toNat - n.dig.length) ++ n.dig ≠ [] := by simp [h0]
              simp [text, fracT, expT, this]
            · have e1 : [48] ++ (noughts ((-n.exp).toNat - n.dig.length) ++ n.dig) = noughts ((-n.exp).toNat - n.dig.length + 1) ++ n.dig := by simp [noughts, List.replicate_succ]
              rw [e1, dropZ_noughts, dropZ_head hh, List.length_append, noughts_len]
              simp only [expV]
              rw [show ((0 : Int) - (((-n.exp).toNat - n.dig.length + n.dig.length : Nat) : Int)) = n.exp by omega]
              exact hnr
theorem text_ne (n : Bool) {I F : List UInt8} {x : Option (UInt8 × List UInt8 × List UInt8)} (h : Parts I F x) : text n I F x ≠ [] := by
  intro e
  have := congrArg List.length e
  obtain ⟨c, I', rfl⟩ := List.exists_cons_of_ne_nil h.ne
  simp [text] at this
theorem parse_print {n : Dec} (h : Right n) : parse (print n) = (n, 0) ∧ scan (print n) = (print n).length ∧ print n ≠ [] := by
  obtain ⟨I, F, x, hp, e, hv, hn⟩ := print_text h
  rw [e]
  exact ⟨by rw [parse_text _ hp hv]; exact hn, scan_text _ hp, text_ne _ hp⟩
end Go.Proofs.YtlfbnfphocpgeaaGreatDoor.Num
namespace Go.Proofs.YtlfbnfphocpgeaaGreatDoor.Quo
open Utf
/-- A hexadecimal digit's value. -/
def hexV (c : UInt8) : Option Nat :=
  if 48 ≤ c.toNat ∧ c.toNat ≤ 57 then some (c.toNat - 48) else if 97 ≤ c.toNat ∧ c.toNat ≤ 102 then some (c.toNat - 97 + 10) else if 65 ≤ c.toNat ∧ c.toNat ≤ 70 then some (c.toNat - 65 + 10) else none
/-- So many digits that bytes begin with: the number, the error. -/
def unitF : Nat → Nat → List UInt8 → Nat × Nat
  | 0, n, _ => (n, 0)
  | _ + 1, _, [] => (0, 2)
  | k + 1, n, c :: r => match hexV c with
    | none => (0, 3)
    | some d => unitF k (n * 16 + d) r
def unit (l : List UInt8) : Nat × Nat := unitF 4 0 l
/-- What a part stands for, how many bytes it has, the error. -/
structure Part where
  s : List UInt8
  size : Nat
  e : Nat
  deriving DecidableEq
def err (e : Nat) : Part := ⟨[], 0, e⟩
/-- Two bytes that must follow: 0, or the error. -/
def follow (l : List UInt8) : Nat :=
  match l with
  | [] => 2
  | a :: r => if a ≠ 92 then 3 else match r with
    | [] => 2
    | b :: _ => if b ≠ 117 then 3 else 0
/-- The part behind a backslash and u. -/
def coded (l : List UInt8) : Part :=
  if (unit l).2 ≠ 0 then err (unit l).2
  else if 56320 ≤ (unit l).1 ∧ (unit l).1 ≤ 57343 then err 3
  else if (unit l).1 < 55296 ∨ 57343 < (unit l).1 then ⟨enc (unit l).1, 6, 0⟩
  else if follow (l.drop 4) ≠ 0 then err (follow (l.drop 4))
  else if (unit (l.drop 6)).2 ≠ 0 then err (unit (l.drop 6)).2
  else if (unit (l.drop 6)).1 < 56320 ∨ 57343 < (unit (l.drop 6)).1 then err 3
  else ⟨enc (65536 + ((unit l).1 - 55296) * 1024 + ((unit (l.drop 6)).1 - 56320)), 12, 0⟩
/-- What the signs behind a backslash stand for. -/
def sign (c : UInt8) : Option UInt8 :=
  if c = 34 ∨ c = 92 ∨ c = 47 then some c else if c = 98 then some 8 else if c = 102 then some 12 else if c = 110 then some 10 else if c = 114 then some 13 else if c = 116 then some 9 else none
def part (l : List UInt8) : Part :=
  match l with
  | [] => err 2
  | c :: r =>
    if c.toNat < 32 then err 3
    else if c ≠ 92 then (if (one (c :: r)).2 = 0 then err 7 else ⟨(c :: r).take (one (c :: r)).2, (one (c :: r)).2, 0⟩)
    else match r with
      | [] => err 2
      | d :: r' => match sign d with
        | some x => ⟨[x], 2, 0⟩
        | none => if d = 117 then coded r' else err 3
theorem unitF_len : ∀ (k n : Nat) (l : List UInt8), (unitF k n l).2 = 0 → k ≤ l.length
  | 0, _, _, _ => Nat.zero_le _
  | k + 1, n, [], h => by simp [unitF] at h
  | k + 1, n, c :: r, h => by
    unfold unitF at h
    split at h
    · simp at h
    · have := unitF_len k _ r h
      simp
      omega
theorem unitF_lt : ∀ (k n : Nat) (l : List UInt8), (unitF k n l).1 ≤ n * 16 ^ k + (16 ^ k - 1)
  | 0, n, _ => by simp [unitF]
  | k + 1, n, [] => by simp [unitF]
  | k + 1, n, c :: r => by
    unfold unitF
    split
    · simp
    · rename_i d hd
      have h := unitF_lt k (n * 16 + d) r
      have hd16 : d ≤ 15 := by
        unfold hexV at hd
        split at hd
        · injection hd with hd; omega
        · split at hd
          · injection hd with hd; omega
          · split at hd
            · injection hd with hd; omega
            · cases hd
      have hp : 0 < 16 ^ k := Nat.pow_pos (by omega)
      rw [Nat.pow_succ]
      have e1 : (n * 16 + d) * 16 ^ k ≤ (n * 16 + 15) * 16 ^ k := Nat.mul_le_mul_right _ (by omega)
      have e2 : (n * 16 + 15) * 16 ^ k = n * (16 ^ k * 16) + 15 * 16 ^ k := by rw [Nat.add_mul, Nat.mul_assoc, Nat.mul_comm 16 (16 ^ k)]
      omega
theorem unit_lt (l : List UInt8) : (unit l).1 < 65536 := by
  have := unitF_lt 4 0 l
  unfold unit
  omega
theorem unit_len {l : List UInt8} (h : (unit l).2 = 0) : 4 ≤ l.length := unitF_len 4 0 l h
/-- A part that is told is a scalar's, has one byte at least, and no more than there are. -/
theorem coded_ok {l : List UInt8} (h : (coded l).e = 0) : ∃ c, Scalar c ∧ (coded l).s = enc c ∧ 6 ≤ (coded l).size ∧ (coded l).size ≤ l.length + 2 := by
  have b1 := unit_lt l
  have b2 := unit_lt (l.drop 6)
  unfold coded at h ⊢
  by_cases c1 : (unit l).2 ≠ 0
  · rw [if_pos c1] at h; exact absurd h c1
  rw [if_neg c1] at h ⊢
  have l1 := unit_len (l := l) (by omega)
  by_cases c2 : 56320 ≤ (unit l).1 ∧ (unit l).1 ≤ 57343
  · rw [if_pos c2] at h; cases h
  rw [if_neg c2] at h ⊢
  by_cases c3 : (unit l).1 < 55296 ∨ 57343 < (unit l).1
  · rw [if_pos c3]
    exact ⟨(unit l).1, by unfold Scalar; omega, rfl, Nat.le_refl _, by dsimp only; omega⟩
  rw [if_neg c3] at h ⊢
  by_cases c4 : follow (l.drop 4) ≠ 0
  · rw [if_pos c4] at h; exact absurd h c4
  rw [if_neg c4] at h ⊢
  by_cases c5 : (unit (l.drop 6)).2 ≠ 0
  · rw [if_pos c5] at h; exact absurd h c5
  rw [if_neg c5] at h ⊢
  have l2 := unit_len (l := l.drop 6) (by omega)
  rw [List.length_drop] at l2
  by_cases c6 : (unit (l.drop 6)).1 < 56320 ∨ 57343 < (unit (l.drop 6)).1
  · rw [if_pos c6] at h; cases h
  rw [if_neg c6]
  exact ⟨65536 + ((unit l).1 - 55296) * 1024 + ((unit (l.drop 6)).1 - 56320), by unfold Scalar; omega, by dsimp only, by dsimp only; omega, by dsimp only; omega⟩
theorem sign_lt {c x : UInt8} (h : sign c = some x) : x.toNat < 128 := by
  unfold sign at h
  split at h
  · rename_i hc
    injection h with h
    subst h
    rcases hc with rfl | rfl | rfl <;> decide
  · repeat (split at h; (injection h with h; subst h; decide))
    cases h
theorem enc_byte {x : UInt8} (h : x.toNat < 128) : enc x.toNat = [x] := by
  unfold enc encN
  rw [if_pos h]
  simp
theorem part_ok {l : List UInt8} (h : (part l).e = 0) : ∃ c, Scalar c ∧ (part l).s = enc c ∧ 1 ≤ (part l).size ∧ (part l).size ≤ l.length := by
  match l, h with
  | [], h => cases h
  | c :: r, h =>
    unfold part at h ⊢
    dsimp only at h ⊢
    by_cases c1 : c.toNat < 32
    · rw [if_pos c1] at h; cases h
    rw [if_neg c1] at h ⊢
    by_cases c2 : c ≠ 92
    · rw [if_pos c2] at h ⊢
      by_cases c3 : (one (c :: r)).2 = 0
      · rw [if_pos c3] at h; cases h
      rw [if_neg c3]
      obtain ⟨h1, h2, h3⟩ := one_bytes c3
      exact ⟨_, h1, h2, by dsimp only; omega, h3⟩
    rw [if_neg c2] at h ⊢
    match r, h with
    | [], h => cases h
    | d :: r', h =>
      dsimp only at h ⊢
      cases hs : sign d with
      | some x =>
        have := sign_lt hs
        exact ⟨x.toNat, by unfold Scalar; omega, (enc_byte this).symm, by show 1 ≤ 2; omega, by simp⟩
      | none =>
        rw [hs] at h
        dsimp only at h ⊢
        by_cases c4 : d = 117
        · rw [if_pos c4] at h ⊢
          obtain ⟨c, k1, k2, k3, k4⟩ := coded_ok h
          exact ⟨c, k1, k2, by omega, by simp; omega⟩
        · rw [if_neg c4] at h; cases h
/-- From a place on, with what is told so far. -/
def scanF (s : List UInt8) (at' : Nat) (l : List UInt8) : Part :=
  if l.head? = some 34 then ⟨s, at' + 1, 0⟩
  else if _h : (part l).e = 0 then scanF (s ++ (part l).s) (at' + (part l).size) (l.drop (part l).size) else err (part l).e
termination_by l.length
decreasing_by
  obtain ⟨_, _, _, h1, h2⟩ := part_ok _h
  rw [List.length_drop]
  omega
def scan (l : List UInt8) : Part :=
  match l with
  | [] => err 2
  | c :: r => if c ≠ 34 then err 3 else scanF [] 1 r
theorem scanF_end {s : List UInt8} {at' : Nat} {l : List UInt8} (h : l.head? = some 34) : scanF s at' l = ⟨s, at' + 1, 0⟩ := by rw [scanF, if_pos h]
theorem scanF_on {s : List UInt8} {at' : Nat} {l : List UInt8} (h : l.head? ≠ some 34) (he : (part l).e = 0) : scanF s at' l = scanF (s ++ (part l).s) (at' + (part l).size) (l.drop (part l).size) := by
  rw [scanF, if_neg h, dif_pos he]
end Go.Proofs.YtlfbnfphocpgeaaGreatDoor.Quo
namespace Go.Proofs.YtlfbnfphocpgeaaGreatDoor.Quo
open Utf
/-- The sign behind a backslash for a byte. -/
def shortB (c : UInt8) : Option UInt8 :=
  if c = 34 then some 34 else if c = 92 then some 92 else if c = 8 then some 98 else if c = 12 then some 102 else if c = 10 then some 110 else if c = 13 then some 114 else if c = 9 then some 116 else none
/-- A small hexadecimal digit. -/
def hexD (n : Nat) : UInt8 := UInt8.ofNat (if n < 10 then 48 + n else 97 + n - 10)
/-- How a byte is printed. -/
def esc (c : UInt8) : List UInt8 :=
  match shortB c with
  | some x => [92, x]
  | none => if c.toNat < 32 then [92, 117, 48, 48, hexD (c.toNat / 16), hexD (c.toNat % 16)] else [c]
def print (s : List UInt8) : List UInt8 := 34 :: (s.flatMap esc ++ [34])
theorem esc_hi {c : UInt8} (h : 128 ≤ c.toNat) : esc c = [c] := by
  have hs : shortB c = none := by
    unfold shortB
    repeat (rw [if_neg (by rintro rfl; revert h; decide)])
  unfold esc
  rw [hs]
  dsimp only
  rw [if_neg (by omega)]
/-- All bytes below 128, each told by its print; cut short, it lacks something. -/
theorem esc_lo : ∀ c : Fin 128, (esc (UInt8.ofNat c.val)).head? ≠ some 34 ∧ (∀ j, j < (esc (UInt8.ofNat c.val)).length → (part ((esc (UInt8.ofNat c.val)).take j)).e = 2) := by decide +kernel
theorem hexV_hexD : ∀ n : Fin 16, hexV (hexD n.val) = some n.val := by decide +kernel
theorem unit_00 {a b : Nat} (ha : a < 16) (hb : b < 16) (r : List UInt8) : unit (48 :: 48 :: hexD a :: hexD b :: r) = (a * 16 + b, 0) := by
  have h1 : hexV (hexD a) = some a := hexV_hexD ⟨a, ha⟩
  have h2 : hexV (hexD b) = some b := hexV_hexD ⟨b, hb⟩
  have h3 : hexV 48 = some 0 := by decide
  unfold unit
  simp only [unitF, h1, h2, h3]
  simp
theorem coded_00 {a b : Nat} (ha : a < 16) (hb : b < 16) (r : List UInt8) : coded (48 :: 48 :: hexD a :: hexD b :: r) = ⟨enc (a * 16 + b), 6, 0⟩ := by
  unfold coded
  rw [unit_00 ha hb]
  dsimp only
  rw [if_neg (by omega), if_neg (by omega), if_pos (by omega)]
theorem ofNat_toNat (c : UInt8) : UInt8.ofNat c.toNat = c := UInt8.ofNat_toNat
theorem part_lo {c : UInt8} (h : c.toNat < 128) (r : List UInt8) : part (esc c ++ r) = ⟨[c], (esc c).length, 0⟩ := by
  cases hs : shortB c with
  | some x =>
    have he : esc c = [92, x] := by unfold esc; rw [hs]
    have hsg : sign x = some c := by
      unfold shortB at hs
      repeat (split at hs; (rename_i hc; injection hs with hs; subst hs; subst hc; decide))
      cases hs
    rw [he]
    show part (92 :: x :: r) = _
    unfold part
    dsimp only
    rw [if_neg (by decide), if_neg (by decide), hsg]
    rfl
  | none =>
    by_cases h32 : c.toNat < 32
    · have he : esc c = [92, 117, 48, 48, hexD (c.toNat / 16), hexD (c.toNat % 16)] := by unfold esc; rw [hs]; dsimp only; rw [if_pos h32]
      rw [he]
      show part (92 :: 117 :: 48 :: 48 :: hexD (c.toNat / 16) :: hexD (c.toNat % 16) :: r) = _
      unfold part
      dsimp only
      rw [if_neg (by decide), if_neg (by decide), show sign 117 = none by decide]
      dsimp only
      rw [if_pos rfl, coded_00 (by omega) (by omega), show c.toNat / 16 * 16 + c.toNat % 16 = c.toNat by omega, enc_byte h]
      rfl
    · have he : esc c = [c] := by unfold esc; rw [hs]; dsimp only; rw [if_neg h32]
      have h92 : c ≠ 92 := by rintro rfl; revert hs; decide
      have h1 := one_enc (c := c.toNat) (by unfold Scalar; omega) r
      rw [enc_byte h] at h1
      rw [he]
      show part (c :: r) = _
      have h1' : one (c :: r) = (c.toNat, 1) := h1
      unfold part
      dsimp only
      rw [if_neg h32, if_pos h92, h1']
      dsimp only
      rw [if_neg (by omega)]
      rfl
theorem enc_hi {c : Nat} (hc : Scalar c) (h : 128 ≤ c) : ∀ b ∈ enc c, 128 ≤ b.toNat := by
  intro b hb
  have hc' := hc
  unfold Scalar at hc'
  rcases enc_kinds hc with ⟨m1, e⟩ | ⟨m1, m2, e⟩ | ⟨m1, m2, e⟩ | ⟨m1, m2, e⟩
  · omega
  all_goals
    rw [e] at hb
    simp only [List.mem_cons, List.not_mem_nil, or_false] at hb
  · rcases hb with rfl | rfl <;> rw [nbc (by omega)] <;> omega
  · rcases hb with rfl | rfl | rfl <;> rw [nbc (by omega)] <;> omega
  · rcases hb with rfl | rfl | rfl | rfl <;> rw [nbc (by omega)] <;> omega
theorem esc_all {l : List UInt8} (h : ∀ b ∈ l, 128 ≤ b.toNat) : l.flatMap esc = l := by
  induction l with
  | nil => rfl
  | cons b l ih =>
    rw [List.flatMap_cons, esc_hi (h b (by simp)), ih (fun x hx => h x (by simp [hx]))]
    rfl
theorem part_hi {c : Nat} (hc : Scalar c) (h : 128 ≤ c) (r : List UInt8) : part (enc c ++ r) = ⟨enc c, (enc c).length, 0⟩ := by
  have hb := enc_hi hc h
  have hl := enc_len (c := c)
  have h1 := one_enc hc r
  obtain ⟨b, t, e⟩ := List.exists_cons_of_ne_nil (show enc c ≠ [] by intro e; rw [e] at hl; simp at hl)
  have hb0 := hb b (by rw [e]; simp)
  rw [e] at h1 ⊢
  show part (b :: (t ++ r)) = _
  have h1' : one (b :: (t ++ r)) = (c, (b :: t).length) := h1
  unfold part
  dsimp only
  rw [if_neg (by omega), if_pos (by rintro rfl; revert hb0; decide), h1']
  dsimp only
  rw [if_neg (by simp)]
  congr 1
  exact List.take_left (l₁ := b :: t) (l₂ := r)
/-- How a scalar is printed. -/
def escS (c : Nat) : List UInt8 := (enc c).flatMap esc
theorem escS_lo {c : Nat} (h : c < 128) : escS c = esc (UInt8.ofNat c) := by
  have e : (UInt8.ofNat c).toNat = c := nbc (by omega)
  have := enc_byte (x := UInt8.ofNat c) (by omega)
  rw [e] at this
  unfold escS
  rw [this]
  simp
theorem part_escS {c : Nat} (hc : Scalar c) (r : List UInt8) : part (escS c ++ r) = ⟨enc c, (escS c).length, 0⟩ := by
  by_cases h : c < 128
  · have e : (UInt8.ofNat c).toNat = c := nbc (by omega)
    have hb := enc_byte (x := UInt8.ofNat c) (by omega)
    rw [e] at hb
    rw [escS_lo h, part_lo (by omega), hb]
  · have : escS c = enc c := esc_all (enc_hi hc (by omega))
    rw [this]
    exact part_hi hc (by omega) r
theorem escS_head {c : Nat} (hc : Scalar c) (r : List UInt8) : (escS c ++ r).head? ≠ some 34 ∧ escS c ≠ [] := by
  by_cases h : c < 128
  · have h1 := (esc_lo ⟨c, h⟩).1
    have hp := part_lo (c := UInt8.ofNat c) (by rw [nbc (by omega)]; exact h) []
    rw [escS_lo h]
    have hne : esc (UInt8.ofNat c) ≠ [] := by
      intro e
      rw [e] at hp
      cases hp
    obtain ⟨b, t, e⟩ := List.exists_cons_of_ne_nil hne
    dsimp only at h1
    rw [e] at h1 ⊢
    exact ⟨by simpa using h1, by simp⟩
  · have e0 : escS c = enc c := esc_all (enc_hi hc (by omega))
    have hl := enc_len (c := c)
    obtain ⟨b, t, e⟩ := List.exists_cons_of_ne_nil (show enc c ≠ [] by intro e; rw [e] at hl; simp at hl)
    have hb0 := enc_hi hc (by omega) b (by rw [e]; simp)
    rw [e0, e]
    refine ⟨?_, by simp⟩
    simp
    rintro rfl
    revert hb0
    decide
/-- A text is made of scalars. -/
theorem valid_cs : ∀ l : List UInt8, bad l = none → ∃ cs : List Nat, (∀ c ∈ cs, Scalar c) ∧ l = cs.flatMap enc := by
  refine scan_ind ?_ ?_ ?_
  · intro _
    exact ⟨[], by simp, rfl⟩
  · intro l hl h0 h
    unfold bad at h
    rw [scan_bad hl h0] at h
    cases h
  · intro c r hc ih h
    unfold bad at h
    rw [scan_enc hc] at h
    have h2 : bad r = none := by
      have := scan_shift r 0 (enc c).length
      unfold bad
      cases hb : (Utf.scan 0 r).2 with
      | none => rfl
      | some x =>
        rw [this, hb] at h
        cases h
    obtain ⟨cs, h3, rfl⟩ := ih h2
    refine ⟨c :: cs, ?_, rfl⟩
    intro x hx
    rcases List.mem_cons.1 hx with rfl | hx
    · exact hc
    · exact h3 x hx
theorem flat_esc (cs : List Nat) : (cs.flatMap enc).flatMap esc = cs.flatMap escS := by
  induction cs with
  | nil => rfl
  | cons c cs ih =>
    rw [List.flatMap_cons, List.flatMap_append, ih, List.flatMap_cons]
    rfl
theorem scanF_print : ∀ (cs : List Nat), (∀ c ∈ cs, Scalar c) → ∀ (s : List UInt8) (at' : Nat) (more : List UInt8), scanF s at' (cs.flatMap escS ++ 34 :: more) = ⟨s ++ cs.flatMap enc, at' + (cs.flatMap escS).length + 1, 0⟩
  | [], _, s, at', more => by
    rw [scanF_end rfl]
    simp
  | c :: cs, h, s, at', more => by
    have hc := h c (by simp)
    have ih := scanF_print cs (fun x hx => h x (by simp [hx]))
    rw [List.flatMap_cons, List.append_assoc]
    have hp := part_escS hc (cs.flatMap escS ++ 34 :: more)
    rw [scanF_on (escS_head hc _).1 (by rw [hp]), hp]
    dsimp only
    rw [List.drop_left, ih, List.flatMap_cons, List.append_assoc, List.length_append]
    congr 1
    omega
theorem scan_print {s : List UInt8} (h : bad s = none) (more : List UInt8) : scan (print s ++ more) = ⟨s, (print s).length, 0⟩ := by
  obtain ⟨cs, h1, rfl⟩ := valid_cs s h
  unfold print
  rw [flat_esc]
  show scan (34 :: ((cs.flatMap escS ++ [34]) ++ more)) = _
  unfold scan
  dsimp only
  rw [if_neg (by simp), List.append_assoc]
  show scanF [] 1 (cs.flatMap escS ++ 34 :: more) = _
  rw [scanF_print cs h1]
  simp
  omega
def parse (l : List UInt8) : List UInt8 × Nat := if (scan l).e ≠ 0 then ([], (scan l).e) else if (scan l).size < l.length then ([], 14) else ((scan l).s, 0)
theorem parse_print {s : List UInt8} (h : bad s = none) : parse (print s) = (s, 0) := by
  have h1 := scan_print h []
  rw [List.append_nil] at h1
  unfold parse
  rw [h1]
  dsimp only
  rw [if_neg (by simp), if_neg (by omega)]
end Go.Proofs.YtlfbnfphocpgeaaGreatDoor.Quo
namespace Go.Proofs.YtlfbnfphocpgeaaGreatDoor.Jdec
open Tre (Val none' Whole Wholes deep deeps)
inductive Got (α : Type) where
  | ok (x : α) (r : List UInt8)
  | no (r : List UInt8) (e : Nat)
def blank (c : UInt8) : Bool := decide (c = 9 ∨ c = 10 ∨ c = 13 ∨ c = 32)
def skip (l : List UInt8) : List UInt8 := l.dropWhile blank
def here {α : Type} (l : List UInt8) : Got α := if l = [] then .no l 2 else .no l 3
def word (v : Val) : List UInt8 → List UInt8 → Got Val
  | [], l => .ok v l
  | _ :: _, [] => .no [] 2
  | c :: w, d :: l => if d = c then word v w l else .no (d :: l) 3
def number (l : List UInt8) : Got Val :=
  if Num.scan l = 0 then (if l.length = 1 then .no l 2 else .no l 3)
  else if (Num.parse (l.take (Num.scan l))).2 ≠ 0 then .no l (Num.parse (l.take (Num.scan l))).2
  else .ok ⟨3, false, (Num.parse (l.take (Num.scan l))).1, [], [], []⟩ (l.drop (Num.scan l))
def text (l : List UInt8) : Got Val :=
  if (Quo.scan l).e ≠ 0 then .no l (Quo.scan l).e else .ok ⟨4, false, Num.zero, (Quo.scan l).s, [], []⟩ (l.drop (Quo.scan l).size)
/-- A key, its colon, blanks. -/
def field (keys : List (List UInt8)) (l : List UInt8) : Got (List UInt8) :=
  if l.head? ≠ some 34 then here l
  else if (Quo.scan l).e ≠ 0 then .no l (Quo.scan l).e
  else if (Quo.scan l).s ∈ keys then .no l 6
  else if (skip (l.drop (Quo.scan l).size)).head? ≠ some 58 then here (skip (l.drop (Quo.scan l).size))
  else .ok (Quo.scan l).s (skip (skip (l.drop (Quo.scan l).size)).tail)
def close (obj : Bool) : UInt8 := if obj then 125 else 93
def made (obj : Bool) (keys : List (List UInt8)) (kids : List Val) : Val := ⟨if obj then 6 else 5, false, Num.zero, [], keys, kids⟩
/-- A key, or none of a list, and what stands behind it. -/
def named (obj : Bool) (keys : List (List UInt8)) (l : List UInt8) : Got (List (List UInt8)) :=
  if obj then (match field keys l with | .ok k r => .ok (keys ++ [k]) r | .no r e => .no r e) else .ok keys l
/-- From an item on. -/
def items (val : List UInt8 → Got Val) (obj : Bool) (keys : List (List UInt8)) (kids : List Val) (l : List UInt8) : Got Val :=
  match named obj keys l with
  | .no r e => .no r e
  | .ok ks l1 => match val l1 with
    | .no r e => .no r e
    | .ok x r =>
      if (skip r).head? = some (close obj) then .ok (made obj ks (kids ++ [x])) (skip r).tail
      else if (skip r).head? ≠ some 44 then here (skip r)
      else if _h : (skip (skip r).tail).length < l.length then items val obj ks (kids ++ [x]) (skip (skip r).tail) else .no l 0
termination_by l.length
def many (val : List UInt8 → Got Val) (l : List UInt8) : Got Val :=
  if (skip l.tail).head? = some (close (decide (l.head? = some 123))) then .ok (made (decide (l.head? = some 123)) [] []) (skip l.tail).tail
  else items val (decide (l.head? = some 123)) [] [] (skip l.tail)
def digit (c : UInt8) : Bool := decide (48 ≤ c.toNat ∧ c.toNat ≤ 57) || decide (c = 45)
def begins (c : UInt8) : Bool := decide (c = 110 ∨ c = 116 ∨ c = 102 ∨ c = 34 ∨ c = 91 ∨ c = 123) || digit c
/-- A value that may be so many more deep. -/
def read (val : List UInt8 → Got Val) (l : List UInt8) : Got Val :=
  match l.head? with
  | none => .no l 2
  | some c =>
    if digit c then number l
    else if c = 110 then word ⟨1, false, Num.zero, [], [], []⟩ [110, 117, 108, 108] l
    else if c = 116 then word ⟨2, true, Num.zero, [], [], []⟩ [116, 114, 117, 101] l
    else if c = 102 then word ⟨2, false, Num.zero, [], [], []⟩ [102, 97, 108, 115, 101] l
    else if c = 34 then text l
    else many val l
def value : Nat → List UInt8 → Got Val
  | 0, l => match l.head? with
    | none => .no l 2
    | some c => if begins c then .no l 5 else .no l 3
  | k + 1, l => match l.head? with
    | none => .no l 2
    | some c => if begins c then read (value k) l else .no l 3
def parse (l : List UInt8) : Got Val :=
  match value 64 (skip l) with
  | .no r e => .no r e
  | .ok v r => if skip r = [] then .ok v [] else .no (skip r) 14
/-- A got's word on what it is of: it ends within the bytes, and tells what holds. -/
def Good {α : Type} (A : α → List UInt8 → Prop) (l : List UInt8) : Got α → Prop
  | .ok x r => r <:+ l ∧ A x r
  | .no r e => r <:+ l ∧ e ≠ 0
theorem bad_nil : Utf.bad [] = none := by simp [Utf.bad, Utf.scan_nil]
theorem zero_right : Num.Right Num.zero := by decide
theorem Good.and {α : Type} {A : α → List UInt8 → Prop} {l : List UInt8} {g : Got α} (h : Good A l g) : ∀ x r, g = .ok x r → r <:+ l ∧ A x r := fun x r e => by subst e; exact h
/-- What is between the brackets so far. -/
structure Sofar (k : Nat) (obj : Bool) (keys : List (List UInt8)) (kids : List Val) : Prop where
  len : obj = true → keys.length = kids.length
  none : obj = false → keys = []
  bad : ∀ x ∈ keys, Utf.bad x = Option.none
  nodup : keys.Nodup
  kids : ∀ v ∈ kids, Whole v ∧ deep v ≤ k
end Go.Proofs.YtlfbnfphocpgeaaGreatDoor.Jdec
namespace Go.Proofs.YtlfbnfphocpgeaaGreatDoor.Jdec
open Tre (Val none' Whole Wholes deep deeps)
open Num (nb dg DigAt run)
theorem nb_left {l : List UInt8} (t : List UInt8) {i : Nat} (h : i < l.length) : nb (l ++ t) i = nb l i := by
  unfold Num.nb
  rw [List.getD_eq_getElem?_getD, List.getD_eq_getElem?_getD, List.getElem?_append_left h]
theorem dig_left {l : List UInt8} (t : List UInt8) {i : Nat} (h : i < l.length) : DigAt (l ++ t) i ↔ DigAt l i := by
  unfold Num.DigAt
  rw [nb_left t h]
theorem run_end : ∀ (n : Nat) (l : List UInt8) (i : Nat), l.length - i = n → ¬ DigAt l (run l i) ∧ (∀ j, i ≤ j → j < run l i → DigAt l j) := by
  intro n
  induction n using Nat.strongRecOn with
  | ind n ih =>
    intro l i hn
    by_cases h : DigAt l i
    · have h0 := Num.digAt_lt h
      rw [Num.run_on h]
      obtain ⟨h1, h2⟩ := ih (l.length - (i + 1)) (by omega) l (i + 1) rfl
      refine ⟨h1, fun j hj hr => ?_⟩
      by_cases e : j = i
      · subst e; exact h
      · exact h2 j (by omega) hr
    · rw [Num.run_stop h]
      exact ⟨h, fun j h1 h2 => by omega⟩
theorem run_left {t : List UInt8} : ∀ (n : Nat) (l : List UInt8) (i : Nat), l.length - i = n → ¬ DigAt (l ++ t) (run l i) → run (l ++ t) i = run l i := by
  intro n
  induction n using Nat.strongRecOn with
  | ind n ih =>
    intro l i hn h
    by_cases hd : DigAt l i
    · have h0 := Num.digAt_lt hd
      rw [Num.run_on hd] at h ⊢
      rw [Num.run_on ((dig_left t h0).2 hd)]
      exact ih (l.length - (i + 1)) (by omega) l (i + 1) rfl h
    · rw [Num.run_stop hd] at h ⊢
      exact Num.run_stop h
/-- No number goes on at a place. -/
def StopAt (l : List UInt8) (i : Nat) : Prop := ¬ DigAt l i ∧ nb l i ≠ 46 ∧ nb l i ≠ 101 ∧ nb l i ≠ 69
theorem scan_left {l t : List UInt8} (h0 : Num.scan l ≠ 0) (hs : StopAt (l ++ t) (Num.scan l)) : Num.scan (l ++ t) = Num.scan l := by
  obtain ⟨s1, s2, s3, s4⟩ := hs
  have hd : DigAt l (Num.neg0 l) := by
    apply Decidable.byContradiction
    intro h
    exact h0 (by unfold Num.scan; rw [if_neg h])
  have l0 := Num.digAt_lt hd
  have en : Num.neg0 (l ++ t) = Num.neg0 l := by
    unfold Num.neg0
    rw [nb_left t (by omega)]
  obtain ⟨a, ha⟩ : ∃ a, Num.intEnd l (Num.neg0 l) = a := ⟨_, rfl⟩
  obtain ⟨f, hf⟩ : ∃ f, Num.fracEnd l a = f := ⟨_, rfl⟩
  obtain ⟨n, hn⟩ : ∃ n, Num.expEnd l f = n := ⟨_, rfl⟩
  have e1 : Num.scan l = n := by unfold Num.scan; rw [if_pos hd, ha, hf, hn]
  rw [e1] at s1 s2 s3 s4 ⊢
  have la : a ≤ l.length := by
    rw [← ha]; unfold Num.intEnd
    split
    · omega
    · exact Num.run_le (by omega)
  have past : ∀ i, l.length ≤ i → nb l i = 0 := fun i hi => Num.nb_past hi
  have lf : a ≤ f ∧ f ≤ l.length := by
    rw [← hf]; unfold Num.fracEnd
    split
    · rename_i hh
      have := Num.run_ge l (a + 1)
      exact ⟨by omega, Num.run_le (Nat.le_of_lt (Num.digAt_lt hh.2))⟩
    · exact ⟨Nat.le_refl _, la⟩
  have ln : f ≤ n ∧ n ≤ l.length := by
    rw [← hn]; unfold Num.expEnd
    split
    · rename_i hh
      have := Num.run_ge l (Num.signEnd l (f + 1))
      have : f + 1 ≤ Num.signEnd l (f + 1) := by unfold Num.signEnd; split <;> omega
      exact ⟨by omega, Num.run_le (Nat.le_of_lt (Num.digAt_lt hh.2))⟩
    · exact ⟨Nat.le_refl _, lf.2⟩
  have ea : a = l.length → n = a := fun e => by
    have e2 : f = a := by
      rw [← hf]; unfold Num.fracEnd
      rw [if_neg (fun hh => by have := past a (by omega); omega)]
    have e3 : n = f := by
      rw [← hn]; unfold Num.expEnd
      rw [if_neg (fun hh => by have := past f (by omega); omega)]
    omega
  have ef : f = l.length → n = f := fun e => by
    rw [← hn]; unfold Num.expEnd
    rw [if_neg (fun hh => by have := past f (by omega); omega)]
  have i1 : Num.intEnd (l ++ t) (Num.neg0 l) = a := by
    unfold Num.intEnd at ha ⊢
    rw [nb_left t l0]
    split
    · rename_i hz
      rw [if_pos hz] at ha
      exact ha
    · rename_i hz
      rw [if_neg hz] at ha
      rw [run_left _ l _ rfl, ha]
      rw [ha]
      by_cases e : a = l.length
      · rw [← ea e]; exact s1
      · rw [dig_left t (by omega), ← ha]
        exact (run_end _ l _ rfl).1
  have i2 : Num.fracEnd (l ++ t) a = f := by
    unfold Num.fracEnd at hf ⊢
    by_cases c : nb l a = 46 ∧ DigAt l (a + 1)
    · have l1 := Num.digAt_lt c.2
      rw [if_pos c] at hf
      rw [if_pos ⟨by rw [nb_left t (by omega)]; exact c.1, (dig_left t l1).2 c.2⟩]
      rw [run_left _ l _ rfl, hf]
      rw [hf]
      by_cases e : f = l.length
      · rw [← ef e]; exact s1
      · rw [dig_left t (by omega), ← hf]
        exact (run_end _ l _ rfl).1
    · rw [if_neg c] at hf
      subst hf
      rw [if_neg]
      rintro ⟨c1, -⟩
      by_cases e : a = l.length
      · rw [← ea e] at c1
        exact s2 c1
      · have c3 := c1
        rw [nb_left t (by omega)] at c1
        have : n = a := by
          rw [← hn]; unfold Num.expEnd
          rw [if_neg (fun hh => by omega)]
        rw [this] at s2
        exact s2 c3
  have i3 : Num.expEnd (l ++ t) f = n := by
    unfold Num.expEnd at hn ⊢
    by_cases c : (nb l f = 101 ∨ nb l f = 69) ∧ DigAt l (Num.signEnd l (f + 1))
    · have l1 := Num.digAt_lt c.2
      have g : f + 1 ≤ Num.signEnd l (f + 1) := by unfold Num.signEnd; split <;> omega
      have e2 : Num.signEnd (l ++ t) (f + 1) = Num.signEnd l (f + 1) := by
        unfold Num.signEnd
        rw [nb_left t (by omega)]
      rw [if_pos c] at hn
      rw [e2, if_pos ⟨by rw [nb_left t (by omega)]; exact c.1, (dig_left t l1).2 c.2⟩]
      rw [run_left _ l _ rfl, hn]
      rw [hn]
      exact s1
    · rw [if_neg c] at hn
      subst hn
      rw [if_neg]
      rintro ⟨c1, -⟩
      omega
  unfold Num.scan
  rw [en, if_pos ((dig_left t l0).2 hd), i1, i2, i3]
/-- The bytes of a number: digits, and what stands between them. -/
def numeric (k : Nat) : Prop := 48 ≤ k ∧ k ≤ 57 ∨ k = 43 ∨ k = 45 ∨ k = 46 ∨ k = 101 ∨ k = 69
instance (k : Nat) : Decidable (numeric k) := by unfold numeric; exact inferInstance
theorem scan_numeric (l : List UInt8) : ∀ i, i < Num.scan l → numeric (nb l i) := by
  unfold Num.scan
  split
  · rename_i hd
    have dig : ∀ j, DigAt l j → numeric (nb l j) := fun j h => .inl h
    have l1 : ∀ i, i < Num.intEnd l (Num.neg0 l) → numeric (nb l i) := by
      intro i hi
      by_cases h0 : i < Num.neg0 l
      · unfold Num.neg0 at h0
        split at h0
        · rename_i h9
          have : i = 0 := by omega
          subst this
          unfold numeric
          omega
        · omega
      · unfold Num.intEnd at hi
        split at hi
        · have : i = Num.neg0 l := by omega
          subst this
          exact dig _ hd
        · exact dig _ ((run_end _ l _ rfl).2 i (by omega) hi)
    have l2 : ∀ i, i < Num.fracEnd l (Num.intEnd l (Num.neg0 l)) → numeric (nb l i) := by
      intro i hi
      by_cases h0 : i < Num.intEnd l (Num.neg0 l)
      · exact l1 i h0
      · unfold Num.fracEnd at hi
        split at hi
        · rename_i hh
          by_cases e : i = Num.intEnd l (Num.neg0 l)
          · subst e
            unfold numeric
            omega
          · exact dig _ ((run_end _ l _ rfl).2 i (by omega) hi)
        · omega
    intro i hi
    by_cases h0 : i < Num.fracEnd l (Num.intEnd l (Num.neg0 l))
    · exact l2 i h0
    · generalize Num.fracEnd l (Num.intEnd l (Num.neg0 l)) = f at *
      unfold Num.expEnd at hi
      split at hi
      · rename_i hh
        by_cases e : i = f
        · subst e
          unfold numeric
          omega
        · by_cases e2 : i < Num.signEnd l (f + 1)
          · unfold Num.signEnd at e2
            split at e2
            · have : i = f + 1 := by omega
              subst this
              unfold numeric
              omega
            · omega
          · exact dig _ ((run_end _ l _ rfl).2 i (by omega) hi)
      · omega
  · intro i hi
    omega
/-- No number goes on there. -/
def Stop (l : List UInt8) : Prop := ∀ c, l.head? = some c → ¬ (48 ≤ c.toNat ∧ c.toNat ≤ 57) ∧ c ≠ 46 ∧ c ≠ 101 ∧ c ≠ 69
theorem nb_at {A : List UInt8} {n : Nat} (B : List UInt8) (h : A.length = n) : nb (A ++ B) n = nb B 0 := by
  have := Num.nb_app A B 0
  rw [Nat.add_zero, h] at this
  exact this
theorem stop_at {l t : List UInt8} {n : Nat} (hn : n ≤ l.length) (h : Stop (l.drop n ++ t)) : StopAt (l ++ t) n := by
  have e : l ++ t = l.take n ++ (l.drop n ++ t) := by rw [← List.append_assoc, List.take_append_drop]
  have hl : (l.take n).length = n := by rw [List.length_take]; omega
  unfold StopAt Num.DigAt
  rw [e, nb_at _ hl]
  generalize l.drop n ++ t = x at *
  cases x with
  | nil => rw [Num.nb_nil]; omega
  | cons c r =>
    obtain ⟨h1, h2, h3, h4⟩ := h c rfl
    rw [Num.nb_zero]
    exact ⟨h1, fun e => h2 (UInt8.toNat_inj.1 e), fun e => h3 (UInt8.toNat_inj.1 e), fun e => h4 (UInt8.toNat_inj.1 e)⟩
end Go.Proofs.YtlfbnfphocpgeaaGreatDoor.Jdec
namespace Go.Proofs.YtlfbnfphocpgeaaGreatDoor.Jenc
open Tre (Val Whole Wholes deep deeps sort)
def brk (wide : Bool) (d : Nat) : List UInt8 := if wide then 10 :: (List.replicate d [32, 32]).flatten else []
def key (wide : Bool) (k : List UInt8) : List UInt8 := Quo.print k ++ (58 :: (if wide then [32] else []))
def opener (obj : Bool) : UInt8 := if obj then 123 else 91
mutual
def prt (wide : Bool) (d : Nat) : Val → List UInt8
  | ⟨k, i, n, s, ks, vs⟩ =>
    if k = 1 then [110, 117, 108, 108] else if k = 2 then (if i then [116, 114, 117, 101] else [102, 97, 108, 115, 101])
    else if k = 3 then Num.print n else if k = 4 then Quo.print s
    else opener (decide (k = 6)) :: (prts wide (d + 1) (decide (k = 6)) true ks vs ++ ((if vs.isEmpty then [] else brk wide d) ++ [Jdec.close (decide (k = 6))]))
def prts (wide : Bool) (d : Nat) (obj first : Bool) (ks : List (List UInt8)) : List Val → List UInt8
  | [] => []
  | v :: r => (if first then [] else [44]) ++ (brk wide d ++ ((if obj then key wide (ks.headD []) else []) ++ (prt wide d v ++ prts wide d obj false ks.tail r)))
end
mutual
/-- The pieces of a print. -/
def pcs : Val → List (List UInt8)
  | ⟨k, i, n, s, ks, vs⟩ =>
    if k = 1 then [[110, 117, 108, 108]] else if k = 2 then [if i then [116, 114, 117, 101] else [102, 97, 108, 115, 101]]
    else if k = 3 then [Num.print n] else if k = 4 then [Quo.print s]
    else [opener (decide (k = 6))] :: (pcss (decide (k = 6)) true ks vs ++ [[Jdec.close (decide (k = 6))]])
def pcss (obj first : Bool) (ks : List (List UInt8)) : List Val → List (List UInt8)
  | [] => []
  | v :: r => (if first then [] else [[44]]) ++ ((if obj then [Quo.print (ks.headD []), [58]] else []) ++ (pcs v ++ pcss obj false ks.tail r))
end

/-- A printer of wide prints: what is written, how many brackets are open, the latest piece. -/
structure WS where
  out : List UInt8
  deep : Int
  last : List UInt8
def opens (p : List UInt8) : Bool := decide (p = [91]) || decide (p = [123])
def shuts (p : List UInt8) : Bool := decide (p = [93]) || decide (p = [125])
def brkI (d : Int) : List UInt8 := brk true d.toNat
def wdeep (s : WS) (p : List UInt8) : Int := (if opens s.last then s.deep + 1 else s.deep) - (if shuts p then 1 else 0)
def wgap (s : WS) (p : List UInt8) : List UInt8 := if opens s.last ≠ shuts p ∨ s.last = [44] then brkI (wdeep s p) else if s.last = [58] then [32] else []
def wstep (s : WS) (p : List UInt8) : WS := ⟨s.out ++ (wgap s p ++ p), wdeep s p, p⟩
def wfold (s : WS) (ps : List (List UInt8)) : WS := ps.foldl wstep s
theorem wfold_app (s : WS) (a b : List (List UInt8)) : wfold s (a ++ b) = wfold (wfold s a) b := List.foldl_append
theorem wfold_cons (s : WS) (p : List UInt8) (b : List (List UInt8)) : wfold s (p :: b) = wfold (wstep s p) b := rfl
/-- A piece that has no parts. -/
def Plain (p : List UInt8) : Prop := p ≠ [91] ∧ p ≠ [123] ∧ p ≠ [93] ∧ p ≠ [125] ∧ p ≠ [44] ∧ p ≠ [58]
/-- The latest piece of a value. -/
def Ends (p : List UInt8) : Prop := p ≠ [91] ∧ p ≠ [123] ∧ p ≠ [44] ∧ p ≠ [58]
theorem plain_quo (s : List UInt8) : Plain (Quo.print s) := by
  unfold Plain Quo.print
  refine ⟨?_, ?_, ?_, ?_, ?_, ?_⟩ <;> (intro h; injection h with h _; revert h; decide)
theorem num_bytes {n : Num.Dec} (h : Num.Right n) : Num.print n ≠ [] ∧ ∀ c ∈ Num.print n, Jdec.numeric c.toNat := by
  obtain ⟨h1, h2, h3⟩ := Num.parse_print h
  refine ⟨h3, fun c hc => ?_⟩
  obtain ⟨i, hi, e⟩ := List.mem_iff_getElem.1 hc
  have := Jdec.scan_numeric (Num.print n) i (by omega)
  unfold Num.nb at this
  rw [List.getD_eq_getElem?_getD, List.getElem?_eq_getElem hi] at this
  simpa [e] using this
theorem plain_num {n : Num.Dec} (h : Num.Right n) : Plain (Num.print n) := by
  obtain ⟨-, h2⟩ := num_bytes h
  have ne : ∀ x : UInt8, ¬ Jdec.numeric x.toNat → Num.print n ≠ [x] := fun x hx e => hx (h2 x (by rw [e]; simp))
  exact ⟨ne 91 (by decide), ne 123 (by decide), ne 93 (by decide), ne 125 (by decide), ne 44 (by decide), ne 58 (by decide)⟩
theorem Plain.ends {p : List UInt8} (h : Plain p) : Ends p := ⟨h.1, h.2.1, h.2.2.2.2.1, h.2.2.2.2.2⟩
theorem Plain.shut {p : List UInt8} (h : Plain p) : shuts p = false := by
  obtain ⟨_, _, h1, h2, _, _⟩ := h
  simp [shuts, h1, h2]
theorem Plain.open {p : List UInt8} (h : Plain p) : opens p = false := by
  obtain ⟨h1, h2, _⟩ := h
  simp [opens, h1, h2]
theorem Ends.open {p : List UInt8} (h : Ends p) : opens p = false := by
  obtain ⟨h1, h2, _⟩ := h
  simp [opens, h1, h2]
/-- What stands ahead of a value. -/
def ahead (s : WS) : List UInt8 := if opens s.last then brkI (s.deep + 1) else if s.last = [44] then brkI s.deep else if s.last = [58] then [32] else []
def within (s : WS) : Int := if opens s.last then s.deep + 1 else s.deep
theorem wstep_on (s : WS) {p : List UInt8} (h : shuts p = false) : wstep s p = ⟨s.out ++ (ahead s ++ p), within s, p⟩ := by
  have e : wdeep s p = within s := by simp [wdeep, within, h]
  unfold wstep
  rw [e]
  congr 3
  unfold wgap ahead
  rw [h, e]
  unfold within
  cases ho : opens s.last with
  | true => simp
  | false => simp
theorem opener_shut (b : Bool) : shuts [opener b] = false := by cases b <;> decide
theorem opener_open (b : Bool) : opens [opener b] = true := by cases b <;> decide
theorem close_shut (b : Bool) : shuts [Jdec.close b] = true := by cases b <;> decide
theorem close_ends (b : Bool) : Ends [Jdec.close b] := by cases b <;> (unfold Ends; decide)
theorem brkI_nat (d : Nat) : brkI (d : Int) = brk true d := rfl
mutual
/-- A value's pieces, written. -/
theorem wide_val : ∀ (v : Val), Whole v → ∀ (s : WS) (d : Nat), within s = (d : Int) → ∃ l, Ends l ∧ wfold s (pcs v) = ⟨s.out ++ (ahead s ++ prt true d v), d, l⟩
  | ⟨k, i, n, t, ks, vs⟩, hv, s, d, hd => by
    rw [Whole] at hv
    obtain ⟨ho, hw⟩ := hv
    have one : ∀ p : List UInt8, Plain p → ∃ l, Ends l ∧ wfold s [p] = ⟨s.out ++ (ahead s ++ p), d, l⟩ := fun p hp => ⟨p, hp.ends, by rw [wfold_cons, wstep_on s hp.shut, hd]; rfl⟩
    rw [pcs, prt]
    by_cases h1 : k = 1
    · rw [if_pos h1, if_pos h1]
      exact one _ (by unfold Plain; decide)
    rw [if_neg h1, if_neg h1]
    by_cases h2 : k = 2
    · rw [if_pos h2, if_pos h2]
      cases i <;> exact one _ (by unfold Plain; decide)
    rw [if_neg h2, if_neg h2]
    by_cases h3 : k = 3
    · rw [if_pos h3, if_pos h3]
      exact one _ (plain_num ho.2.2.2.2.2.2.2.1)
    rw [if_neg h3, if_neg h3]
    by_cases h4 : k = 4
    · rw [if_pos h4, if_pos h4]
      exact one _ (plain_quo _)
    rw [if_neg h4, if_neg h4]
    generalize hob : decide (k = 6) = obj
    rw [wfold_cons, wstep_on s (opener_shut obj), hd, wfold_app]
    cases vs with
    | nil =>
      refine ⟨_, close_ends obj, ?_⟩
      rw [pcss, prts, List.isEmpty_nil]
      show wstep ⟨s.out ++ (ahead s ++ [opener obj]), d, [opener obj]⟩ _ = _
      have e1 : ((d : Int) + 1 - 1) = d := by omega
      simp [wstep, wgap, wdeep, opener_open, close_shut, e1]
      cases obj <;> simp [opener]
    | cons v r =>
      obtain ⟨l, hl, e⟩ := wide_vals (v :: r) hw obj true ks ⟨s.out ++ (ahead s ++ [opener obj]), d, [opener obj]⟩ (d + 1) (fun _ => ⟨opener_open obj, rfl⟩) (fun e => absurd e (by decide)) (by simp)
      rw [e]
      refine ⟨_, close_ends obj, ?_⟩
      show wstep _ _ = _
      have el2 : (d : Int) + 1 - 1 = d := by omega
      simp [wstep, wgap, wdeep, hl.open, close_shut, el2, brkI_nat, List.append_assoc]
theorem wide_vals : ∀ (vs : List Val), Wholes vs → ∀ (obj first : Bool) (ks : List (List UInt8)) (s : WS) (d : Nat), (first = true → opens s.last = true ∧ s.deep + 1 = d) → (first = false → Ends s.last ∧ s.deep = d) → vs ≠ [] →
    ∃ l, Ends l ∧ wfold s (pcss obj first ks vs) = ⟨s.out ++ prts true d obj first ks vs, d, l⟩
  | [], _, _, _, _, _, _, _, _, h => absurd rfl h
  | v :: r, hw, obj, first, ks, s, d, hf, hg, _ => by
    rw [Wholes] at hw
    obtain ⟨h1, h2⟩ := hw
    rw [pcss, prts, wfold_app]
    -- the comma
    obtain ⟨s1, hs1, e1, e2, e3⟩ : ∃ s1, wfold s (if first then [] else [[44]]) = s1 ∧ s1.out = s.out ++ (if first then [] else [44]) ∧ ahead s1 = brk true d ∧ within s1 = (d : Int) := by
      cases first with
      | true =>
        obtain ⟨a, b⟩ := hf rfl
        refine ⟨s, rfl, by simp, ?_, ?_⟩
        · simp [ahead, a, b, brkI_nat]
        · simp [within, a, b]
      | false =>
        obtain ⟨a, b⟩ := hg rfl
        have c1 : shuts [44] = false := by decide
        have c2 : opens [44] = false := by decide
        refine ⟨wstep s [44], rfl, ?_, ?_, ?_⟩
        · rw [wstep_on s c1]
          obtain ⟨x1, x2, x3, x4⟩ := a
          simp [ahead, opens, x1, x2, x3, x4]
        · rw [wstep_on s c1]
          simp [ahead, c2, within, a.open, b, brkI_nat]
        · rw [wstep_on s c1]
          simp [within, c2, a.open, b]
    rw [hs1, wfold_app, wfold_app]
    -- the key
    obtain ⟨s2, hs2, f1, f3⟩ : ∃ s2, wfold s1 (if obj then [Quo.print (ks.headD []), [58]] else []) = s2 ∧ s2.out ++ ahead s2 = s1.out ++ (brk true d ++ (if obj then key true (ks.headD []) else [])) ∧ within s2 = (d : Int) := by
      cases obj with
      | false => exact ⟨s1, rfl, by simp [e2], e3⟩
      | true =>
        generalize ks.headD [] = kk
        have hp := plain_quo kk
        have c1 : shuts [58] = false := by decide
        have c2 : opens [58] = false := by decide
        have c3 : ([58] : List UInt8) ≠ [44] := by decide
        refine ⟨_, rfl, ?_, ?_⟩
        · show (wstep (wstep s1 _) _).out ++ ahead (wstep (wstep s1 _) _) = _
          rw [wstep_on s1 hp.shut, wstep_on _ c1]
          have p1 := hp.ends
          obtain ⟨x1, x2, x3, x4⟩ := p1
          have p2 := hp.open
          simp [ahead, p2, x3, x4, c2, c3, key]
          rw [← e2]
          simp [ahead]
        · show within (wstep (wstep s1 _) _) = _
          rw [wstep_on s1 hp.shut, wstep_on _ c1]
          simp [within, c2, hp.open]
          exact e3
    rw [hs2]
    obtain ⟨l3, hl3, e4⟩ := wide_val v h1 s2 d f3
    rw [e4]
    have fin : s2.out ++ (ahead s2 ++ prt true d v) = s.out ++ ((if first then [] else [44]) ++ (brk true d ++ ((if obj then key true (ks.headD []) else []) ++ prt true d v))) := by
      rw [← List.append_assoc, f1, e1]
      simp [List.append_assoc]
    cases r with
    | nil => exact ⟨l3, hl3, by rw [pcss, prts, fin]; simp [wfold]⟩
    | cons v2 r2 =>
      obtain ⟨l4, hl4, e5⟩ := wide_vals (v2 :: r2) h2 obj false ks.tail ⟨s2.out ++ (ahead s2 ++ prt true d v), d, l3⟩ d (fun e => absurd e (by decide)) (fun _ => ⟨hl3, rfl⟩) (by simp)
      refine ⟨l4, hl4, ?_⟩
      rw [e5]
      congr 1
      rw [fin]
      simp [List.append_assoc]
end
/-- The pieces of a narrow print are the print. -/
theorem brk_false (d : Nat) : brk false d = [] := rfl
mutual
theorem narrow_val : ∀ (v : Val) (d : Nat), (pcs v).flatten = prt false d v
  | ⟨k, i, n, t, ks, vs⟩, d => by
    rw [pcs, prt]
    split
    · rfl
    split
    · simp
    split
    · simp
    split
    · simp
    rw [List.flatten_cons, List.flatten_append, narrow_vals vs (d + 1)]
    simp [brk_false]
theorem narrow_vals : ∀ (vs : List Val) (d : Nat) (obj first : Bool) (ks : List (List UInt8)), (pcss obj first ks vs).flatten = prts false d obj first ks vs
  | [], _, _, _, _ => by rw [pcss, prts]; rfl
  | v :: r, d, obj, first, ks => by
    rw [pcss, prts, List.flatten_append, List.flatten_append, List.flatten_append, narrow_val v d, narrow_vals r d, brk_false]
    cases first <;> cases obj <;> simp [key]
end
end Go.Proofs.YtlfbnfphocpgeaaGreatDoor.Jenc
namespace Go.Proofs.YtlfbnfphocpgeaaGreatDoor.Jenc
open Tre (Val Whole Wholes deep deeps sort)
open Jdec (Got value items made field skip Stop)
/-- What may stand behind a value within a print. -/
def Stops (t : List UInt8) : Prop := t = [] ∨ t.head? = some 44 ∨ t.head? = some 93 ∨ t.head? = some 125
theorem Stops.stop {t : List UInt8} (h : Stops t) : Stop t := by
  intro c hc
  rcases h with rfl | h | h | h
  · cases hc
  all_goals
    rw [h] at hc
    injection hc with hc
    subst hc
    decide
/-- A value's first byte. -/
theorem prt_head (v : Val) (d : Nat) (h : Whole v) : ∃ c r, prt false d v = c :: r ∧ Jdec.blank c = false ∧ Jdec.begins c = true ∧ (v.kind = 3 ↔ Jdec.digit c = true) ∧ (v.kind = 1 → c = 110) ∧ (v.kind = 2 → c = if v.is then 116 else 102) ∧ (v.kind = 4 → c = 34) ∧ (v.kind = 5 → c = 91) ∧ (v.kind = 6 → c = 123) := by
  obtain ⟨k, i, n, s, ks, vs⟩ := v
  rw [Whole] at h
  obtain ⟨ho, -⟩ := h
  have hr : Num.Right n := ho.2.2.2.2.2.2.2.1
  have l1 : 1 ≤ k := ho.1
  have l2 : k ≤ 6 := ho.2.1
  show ∃ c r, _ ∧ _ ∧ _ ∧ (k = 3 ↔ _) ∧ (k = 1 → _) ∧ (k = 2 → c = if i then 116 else 102) ∧ (k = 4 → _) ∧ (k = 5 → _) ∧ (k = 6 → _)
  rw [prt]
  by_cases h1 : k = 1
  · subst h1
    exact ⟨_, _, rfl, by decide, by decide, by decide, by decide, fun e => absurd e (by decide), by decide, by decide, by decide⟩
  rw [if_neg h1]
  by_cases h2 : k = 2
  · subst h2
    rw [if_pos rfl]
    cases i
    · exact ⟨_, _, rfl, by decide, by decide, by decide, by decide, by decide, by decide, by decide, by decide⟩
    · exact ⟨_, _, rfl, by decide, by decide, by decide, by decide, by decide, by decide, by decide, by decide⟩
  rw [if_neg h2]
  by_cases h3 : k = 3
  · subst h3
    rw [if_pos rfl]
    obtain ⟨p1, p2, p3⟩ := Num.parse_print hr
    cases hp : Num.print n with
    | nil => exact absurd hp p3
    | cons c r =>
      have hd : Jdec.digit c = true := by
        apply Decidable.byContradiction
        intro hd
        have : Num.scan (Num.print n) = 0 := by
          rw [hp]
          unfold Num.scan Num.neg0
          rw [Num.nb_zero]
          have hd : ¬ (48 ≤ c.toNat ∧ c.toNat ≤ 57) ∧ ¬ c = 45 := by simpa [Jdec.digit] using hd
          have hc45 : c.toNat ≠ 45 := fun e => hd.2 (UInt8.toNat_inj.1 e)
          rw [if_neg hc45, if_neg]
          unfold Num.DigAt
          rw [Num.nb_zero]
          exact hd.1
        rw [p2, hp] at this
        cases this
      refine ⟨c, r, rfl, ?_, by unfold Jdec.begins; rw [hd]; simp, by simp [hd], fun e => absurd e (by decide), fun e => absurd e (by decide), fun e => absurd e (by decide), fun e => absurd e (by decide), fun e => absurd e (by decide)⟩
      unfold Jdec.digit at hd
      unfold Jdec.blank
      rw [decide_eq_false_iff_not]
      rintro (rfl | rfl | rfl | rfl) <;> revert hd <;> decide
  rw [if_neg h3]
  by_cases h4 : k = 4
  · subst h4
    rw [if_pos rfl]
    exact ⟨34, _, rfl, by decide, by decide, by decide, by decide, fun e => absurd e (by decide), by decide, by decide, by decide⟩
  rw [if_neg h4]
  by_cases h6 : k = 6
  · subst h6
    exact ⟨123, _, rfl, by decide, by decide, by decide, by decide, fun e => absurd e (by decide), by decide, by decide, by decide⟩
  · obtain rfl : k = 5 := by omega
    exact ⟨91, _, rfl, by decide, by decide, by decide, by decide, fun e => absurd e (by decide), by decide, by decide, by decide⟩
theorem skip_on {c : UInt8} {r : List UInt8} (h : Jdec.blank c = false) : skip (c :: r) = c :: r := by
  unfold skip
  rw [List.dropWhile_cons, if_neg (by rw [h]; decide)]
theorem skip_prt (v : Val) (d : Nat) (h : Whole v) (t : List UInt8) : skip (prt false d v ++ t) = prt false d v ++ t := by
  obtain ⟨c, r, e, hb, _⟩ := prt_head v d h
  rw [e]
  exact skip_on hb
theorem field_print {keys : List (List UInt8)} {k : List UInt8} {r : List UInt8} (hk : Utf.bad k = none) (hn : k ∉ keys) (hr : skip r = r) : field keys (Quo.print k ++ (58 :: r)) = .ok k r := by
  unfold field
  have hs := Quo.scan_print hk (58 :: r)
  rw [if_neg (by unfold Quo.print; simp), hs]
  dsimp only
  have h58 : Jdec.blank 58 = false := by decide
  rw [if_neg (by simp), if_neg hn, List.drop_left, skip_on h58, if_neg (by simp), List.tail_cons, hr]
theorem number_print {n : Num.Dec} (h : Num.Right n) {t : List UInt8} (ht : Stop t) : Jdec.number (Num.print n ++ t) = .ok ⟨3, false, n, [], [], []⟩ t := by
  obtain ⟨p1, p2, p3⟩ := Num.parse_print h
  have hl := List.length_pos_iff.2 p3
  have hs : Num.scan (Num.print n ++ t) = (Num.print n).length := by
    rw [← p2]
    refine Jdec.scan_left (by omega) (Jdec.stop_at (by omega) ?_)
    rw [p2, List.drop_length]
    exact ht
  unfold Jdec.number
  rw [hs, if_neg (by omega), List.take_left, p1, if_neg (by simp), List.drop_left]
theorem text_print {s : List UInt8} (h : Utf.bad s = none) {t : List UInt8} : Jdec.text (Quo.print s ++ t) = .ok ⟨4, false, Num.zero, s, [], []⟩ t := by
  unfold Jdec.text
  rw [Quo.scan_print h, if_neg (by simp), List.drop_left]
theorem word_print (v : Val) : ∀ (w t : List UInt8), Jdec.word v w (w ++ t) = .ok v t
  | [], t => by rw [List.nil_append, Jdec.word]
  | c :: w, t => by
    rw [List.cons_append, Jdec.word, if_pos rfl]
    exact word_print v w t
/-- What stands from a list's or an object's part on. -/
theorem prts_stops (d : Nat) (obj : Bool) (ks : List (List UInt8)) (vs : List Val) (t : List UInt8) : Stops (prts false d obj false ks vs ++ (Jdec.close obj :: t)) := by
  cases vs with
  | nil =>
    rw [prts]
    cases obj
    · exact .inr (.inr (.inl rfl))
    · exact .inr (.inr (.inr rfl))
  | cons v r =>
    rw [prts]
    exact .inr (.inl rfl)
mutual
/-- What is printed is read as it was. -/
theorem value_print : ∀ (v : Val) (d K : Nat) (t : List UInt8), Whole v → deep v ≤ K → Stops t → value K (prt false d v ++ t) = .ok v t
  | ⟨k, i, n, s, ks, vs⟩, d, K, t, hv, hK, ht => by
    obtain ⟨c, r, e, hb, hbeg, h3, h1, h2, h4, h5, h6⟩ := prt_head _ d hv
    have hv' := hv
    rw [Whole] at hv
    obtain ⟨⟨l1, l2, a2, a3, a4, a5, a6, hr, hbad, hlen, hkb, hnd⟩, hw⟩ := hv
    change 1 ≤ k at l1
    change k ≤ 6 at l2
    change k ≠ 2 → i = false at a2
    change k ≠ 3 → n = Num.zero at a3
    change k ≠ 4 → s = [] at a4
    change k < 5 → vs = [] at a5
    change k ≠ 6 → ks = [] at a6
    change k = 3 ↔ _ at h3
    change k = 1 → _ at h1
    change k = 2 → c = (if i then 116 else 102) at h2
    change k = 4 → _ at h4
    change k = 5 → _ at h5
    change k = 6 → _ at h6
    rw [Tre.deep_eq] at hK
    change (if k = 5 ∨ k = 6 then deeps vs else 0) + 1 ≤ K at hK
    obtain ⟨K', rfl⟩ : ∃ K', K = K' + 1 := ⟨K - 1, by omega⟩
    have hhead : (prt false d ⟨k, i, n, s, ks, vs⟩ ++ t).head? = some c := by rw [e]; rfl
    unfold value
    rw [hhead]
    dsimp only
    rw [if_pos hbeg]
    unfold Jdec.read
    rw [hhead]
    dsimp only
    rw [prt]
    by_cases e3 : k = 3
    · rw [if_pos (h3.1 e3)]
      subst e3
      rw [a2 (by decide), a4 (by decide), a5 (by decide), a6 (by decide)]
      exact number_print hr ht.stop
    rw [if_neg (fun h => e3 (h3.2 h))]
    by_cases e1 : k = 1
    · subst e1
      rw [if_pos (h1 rfl), if_pos rfl, a2 (by decide), a3 (by decide), a4 (by decide), a5 (by decide), a6 (by decide)]
      exact word_print _ _ _
    rw [if_neg e1]
    by_cases e2 : k = 2
    · subst e2
      rw [a3 (by decide), a4 (by decide), a5 (by decide), a6 (by decide), h2 rfl]
      cases i
      · rw [if_neg (by decide), if_neg (by decide), if_pos (by decide), if_pos rfl]
        exact word_print _ _ _
      · rw [if_neg (by decide), if_pos (by decide), if_pos rfl]
        exact word_print _ _ _
    rw [if_neg e2, if_neg e3]
    by_cases e4 : k = 4
    · subst e4
      rw [h4 rfl, a2 (by decide), a3 (by decide), a5 (by decide), a6 (by decide)]
      rw [if_neg (by decide), if_neg (by decide), if_neg (by decide), if_pos rfl, if_pos rfl]
      exact text_print hbad
    rw [if_neg e4]
    have e56 : k = 5 ∨ k = 6 := by omega
    rw [if_pos e56] at hK
    have hcc : c = opener (decide (k = 6)) := by
      rcases e56 with rfl | rfl
      · exact h5 rfl
      · exact h6 rfl
    have hm : made (decide (k = 6)) ks vs = ⟨k, i, n, s, ks, vs⟩ := by
      rw [a2 e2, a3 e3, a4 e4]
      unfold made
      rcases e56 with rfl | rfl <;> rfl
    rw [← hm]
    have hlen' : decide (k = 6) = true → ks.length = vs.length := fun e => hlen (of_decide_eq_true e)
    have hks : decide (k = 6) = false → ks = [] := fun e => a6 (of_decide_eq_false e)
    generalize decide (k = 6) = obj at *
    subst hcc
    rw [if_neg (by cases obj <;> decide), if_neg (by cases obj <;> decide), if_neg (by cases obj <;> decide), if_neg (by cases obj <;> decide)]
    unfold Jdec.many
    rw [List.cons_append, List.head?_cons, List.tail_cons, show decide (some (opener obj) = some 123) = obj by cases obj <;> decide]
    cases vs with
    | nil =>
      have hks0 : ks = [] := by
        cases obj with
        | true => exact List.length_eq_zero_iff.1 (by simpa using hlen' rfl)
        | false => exact hks rfl
      subst hks0
      have hcb : Jdec.blank (Jdec.close obj) = false := by cases obj <;> decide
      rw [prts, List.isEmpty_nil, if_pos rfl, List.nil_append, List.nil_append, List.singleton_append, skip_on hcb, if_pos (by rw [List.head?_cons]), List.tail_cons]
    | cons v r =>
      simp only [List.isEmpty_cons, Bool.false_eq_true, if_false, brk_false, List.nil_append]
      rw [List.append_assoc, List.singleton_append]
      have hsk : skip (prts false (d + 1) obj true ks (v :: r) ++ (Jdec.close obj :: t)) = prts false (d + 1) obj true ks (v :: r) ++ (Jdec.close obj :: t) := by
        rw [prts, brk_false]
        rw [Wholes] at hw
        cases obj with
        | false => simpa using skip_prt v (d + 1) hw.1 _
        | true => exact skip_on (c := 34) (by decide)
      have hhd : (prts false (d + 1) obj true ks (v :: r) ++ (Jdec.close obj :: t)).head? ≠ some (Jdec.close obj) := by
        rw [prts, brk_false]
        rw [Wholes] at hw
        cases obj with
        | false =>
          obtain ⟨c, r2, e, hb, hbeg, _⟩ := prt_head v (d + 1) hw.1
          simp only [if_true, List.nil_append, e, List.cons_append]
          intro e9
          injection e9 with e9
          subst e9
          exact absurd hbeg (by decide)
        | true =>
          show some (34 : UInt8) ≠ some 125
          decide
      rw [hsk, if_neg hhd]
      have := vals_print (v :: r) (d + 1) K' obj ks [] [] t hw (Tre.deeps_le.1 (by omega)) (by simp) hlen' hks hkb hnd
      simpa using this
theorem vals_print : ∀ (vs : List Val) (d K : Nat) (obj : Bool) (ks keys : List (List UInt8)) (kids : List Val) (t : List UInt8), Wholes vs → (∀ v ∈ vs, deep v ≤ K) → vs ≠ [] → (obj = true → ks.length = vs.length) → (obj = false → ks = []) → (∀ x ∈ ks, Utf.bad x = none) → (keys ++ ks).Nodup →
    items (value K) obj keys kids (prts false d obj true ks vs ++ (Jdec.close obj :: t)) = .ok (made obj (keys ++ ks) (kids ++ vs)) t
  | [], _, _, _, _, _, _, _, _, _, h, _, _, _, _ => absurd rfl h
  | v :: r, d, K, obj, ks, keys, kids, t, hw, hd, _, hl, hk0, hkb, hnd => by
    rw [Wholes] at hw
    obtain ⟨h1, h2⟩ := hw
    have hst := prts_stops d obj ks.tail r t
    have hv := value_print v d K (prts false d obj false ks.tail r ++ (Jdec.close obj :: t)) h1 (hd v (by simp)) hst
    -- the key
    obtain ⟨ks1, ek, hsum⟩ : ∃ ks1, Jdec.named obj keys (prts false d obj true ks (v :: r) ++ (Jdec.close obj :: t)) = .ok ks1 (prt false d v ++ (prts false d obj false ks.tail r ++ (Jdec.close obj :: t))) ∧ ks1 ++ ks.tail = keys ++ ks := by
      cases obj with
      | false =>
        refine ⟨keys, ?_, by rw [hk0 rfl]; rfl⟩
        unfold Jdec.named
        rw [prts, brk_false]
        simp
      | true =>
        obtain ⟨k, ks, rfl⟩ : ∃ k ks', ks = k :: ks' := by
          cases ks with
          | nil => exact absurd (hl rfl) (by simp)
          | cons k ks' => exact ⟨k, ks', rfl⟩
        have hkn : k ∉ keys := by
          intro hm
          exact (List.nodup_append.1 hnd).2.2 k hm k (by simp) rfl
        have hf := field_print (keys := keys) (k := k) (r := prt false d v ++ (prts false d true false ks r ++ (Jdec.close true :: t))) (hkb k (by simp)) hkn (skip_prt v d h1 _)
        refine ⟨keys ++ [k], ?_, by simp⟩
        unfold Jdec.named
        rw [prts, brk_false]
        have e : (if true = true then [] else [44]) ++ ([] ++ ((if true = true then key false ((k :: ks).headD []) else []) ++ (prt false d v ++ prts false d true false (k :: ks).tail r))) ++ (Jdec.close true :: t) = Quo.print k ++ (58 :: (prt false d v ++ (prts false d true false ks r ++ (Jdec.close true :: t)))) := by
          simp [key]
        rw [e, if_pos rfl, hf]
        rfl
    unfold items
    rw [ek]
    dsimp only
    rw [hv]
    dsimp only
    cases r with
    | nil =>
      have hcb : Jdec.blank (Jdec.close obj) = false := by cases obj <;> decide
      have hkt : ks.tail = [] := by
        cases obj with
        | true =>
          have := hl rfl
          apply List.length_eq_zero_iff.1
          rw [List.length_tail, this]
          rfl
        | false => rw [hk0 rfl]; rfl
      rw [prts, List.nil_append, skip_on hcb, if_pos (by rw [List.head?_cons]), List.tail_cons]
      rw [hkt, List.append_nil] at hsum
      rw [hsum]
    | cons v2 r2 =>
      have e44 : prts false d obj false ks.tail (v2 :: r2) ++ (Jdec.close obj :: t) = 44 :: (prts false d obj true ks.tail (v2 :: r2) ++ (Jdec.close obj :: t)) := by
        rw [prts, prts]
        rfl
      have hsk : skip (prts false d obj true ks.tail (v2 :: r2) ++ (Jdec.close obj :: t)) = prts false d obj true ks.tail (v2 :: r2) ++ (Jdec.close obj :: t) := by
        rw [prts, brk_false]
        rw [Wholes] at h2
        cases obj with
        | false => simpa using skip_prt v2 d h2.1 _
        | true => exact skip_on (c := 34) (by decide)
      have h44 : Jdec.blank 44 = false := by decide
      have hc44 : some (44 : UInt8) ≠ some (Jdec.close obj) := by cases obj <;> decide
      have hlt : (prts false d obj true ks.tail (v2 :: r2) ++ (Jdec.close obj :: t)).length < (prts false d obj true ks (v :: v2 :: r2) ++ (Jdec.close obj :: t)).length := by
        rw [show prts false d obj true ks (v :: v2 :: r2) = (if true then [] else [44]) ++ (brk false d ++ ((if obj then key false (ks.headD []) else []) ++ (prt false d v ++ prts false d obj false ks.tail (v2 :: r2)))) by rw [prts], brk_false]
        have : (prts false d obj false ks.tail (v2 :: r2)).length = (prts false d obj true ks.tail (v2 :: r2)).length + 1 := by
          rw [prts, prts]
          simp
        simp only [List.length_append, List.length_cons]
        omega
      rw [e44, skip_on h44, List.head?_cons, if_neg hc44, if_neg (by simp), List.tail_cons, hsk, dif_pos hlt]
      have := vals_print (v2 :: r2) d K obj ks.tail ks1 (kids ++ [v]) t h2 (fun x hx => hd x (List.mem_cons_of_mem _ hx)) (by simp) (fun e => by rw [List.length_tail, hl e]; rfl) (fun e => by rw [hk0 e]; rfl) (fun x hx => hkb x (List.mem_of_mem_tail hx)) (by rw [hsum]; exact hnd)
      rw [this, hsum]
      simp
end
/-- A right value's print is read as it was. -/
theorem parse_print {v : Val} (h : Tre.Right v) (d : Nat) : Jdec.parse (prt false d v) = .ok v [] := by
  have h1 := value_print v d 64 [] h.2 h.1 (.inl rfl)
  rw [List.append_nil] at h1
  have h2 := skip_prt v d h.2 []
  rw [List.append_nil] at h2
  unfold Jdec.parse
  rw [h2, h1]
  rfl
end Go.Proofs.YtlfbnfphocpgeaaGreatDoor.Jenc
namespace Go.Proofs.YtlfbnfphocpgeaaGreatDoor.Kit
open Go.ChangeShapes Go.WideShapes Go.ChangeAt Go.RowKit
theorem own : ownKnob Tryz.prog.godebug = none := by kernel_rfl
theorem laid : laidOutB Tryz.prog = true := by kernel_rfl
section
variable {H : Type} {enc : TypeId × Value → H} {P : Program}
/-- A list of arguments reads, behind a call that left the old heap alone, as it read before. -/
theorem args_stay (hl : laidOutB P = true) {W W' : World} (hB : Below W.heap.size W W') :
    ∀ (ts : List TypeId) (vs : List Value) (ds : List (DataW H)) (ps : List MemPlace),
      (∀ t ∈ ts, P.readableRec t = true ∧ t < P.types.size) → (∀ x ∈ ps, x.block < W.heap.size) →
      DataW.TrodAll enc P W 0 (fun _ => true) true ts vs ds ps → DataW.TrodAll enc P W' 0 (fun b => decide (b < W.heap.size)) true ts vs ds ps
  | [], vs, ds, ps, _, _, h => by
    obtain ⟨rfl, rfl, rfl⟩ := trodAll_nil h
    exact rfl
  | t :: ts, vs, ds, ps, hr, hp, h => by
    obtain ⟨v, vs', d, ds', p, q, rfl, rfl, rfl, h1, h2⟩ := trodAll_cons h
    have ht := hr t (by simp)
    exact ⟨p, q, Below.trod hl ht.1 ht.2 h1 hB (fun x hx => hp x (by simp [hx])),
      args_stay hl hB ts vs' ds' q (fun t' h' => hr t' (by simp [h'])) (fun x hx => hp x (by simp [hx])) h2, rfl⟩
/-- The last step of a law's row: it answered true, and below the old heap nothing has turned. -/
theorem law_done {f : Func} {s : ChangeSpec} {apart : Bool} {W W' : World} {args : Array Value} {ds gs : List (DataW H)} {before : List MemPlace} {tb : TypeId}
    (hl : laidOutB P = true) (hv : s.vars = []) (hfn : s.fn H (ds ++ gs) = { results := [.lit (.bool true)], args := ds }) (hrt : f.resultTypes = #[tb]) (htb : P.underlying tb = some .bool)
    (hr : ∀ t ∈ f.params.toList, P.readableRec t = true ∧ t < P.types.size)
    (hW : DataW.Whole enc P f.params.toList s.vars apart W args.toList ds gs before) (hB : Below W.heap.size W W') :
    s.post enc P f apart true false false W args (.bool true) W' := by
  have hlt : ∀ p ∈ before, p.block < W.heap.size := fun p hp => hW.lt p hp
  have hW0 := hW
  obtain ⟨p, q, hA, hV, rfl, hz, hn⟩ := hW
  rw [hv] at hV
  obtain ⟨rfl, rfl⟩ := trodVars_none hV
  refine ⟨ds, [], p ++ [], [], p, [], hW0, ?_, ?_, ?_, hB.frame _, fun h => by cases h⟩
  · rw [hfn, hrt]
    exact trodAll_mk1 (shut_bool htb true)
  · rw [hfn]
    exact args_stay hl hB _ _ _ _ hr (fun x hx => hlt x (by simp [hx])) hA
  · rw [hv, hfn]
    exact rfl
end
/-- Draws change no block. -/
theorem below_drewN {B : Nat} {a w : World} (h : Below B a w) (n : Nat) : Below B a (w.drewN n) := h.trans ⟨rfl, rfl, rfl, Nat.le_refl _, fun _ _ => rfl⟩
theorem cell_of {w : World} {b : Nat} {c : Array Value} {t : TypeId} {fr : Nat × Nat} (h : w.heap[b]? = some (.cells c t fr)) (i : Nat) : w.cell? ⟨b, i, none⟩ = c[i]? := by simp [World.cell?, h]
theorem free_of {w : World} {b : Nat} {c : Array Value} {t : TypeId} (h : w.heap[b]? = some (.cells c t (0, 0))) (i : Nat) : w.frozen? ⟨b, i, none⟩ = false := by simp [World.frozen?, h]
theorem lt_of_heap {w : World} {b : Nat} {o : Obj} (h : w.heap[b]? = some o) : b < w.heap.size := (Array.getElem?_eq_some_iff.1 h).1
/-- A block of which one cell is stored. -/
theorem set_of {w : World} {b : Nat} {c : Array Value} {t : TypeId} {fr : Nat × Nat} (h : w.heap[b]? = some (.cells c t fr)) (i : Nat) (v : Value) : (w.setCell ⟨b, i, none⟩ v).heap[b]? = some (.cells (c.setIfInBounds i v) t fr) := by
  obtain ⟨hlt, hk⟩ := Array.getElem?_eq_some_iff.1 h
  show (w.heap.modify b _)[b]? = _
  rw [Array.getElem?_eq_getElem (by rw [Array.size_modify]; exact hlt), Array.getElem_modify_self, hk]
  rfl
/-- A new block leaves the others. -/
theorem new_of {w : World} {b : Nat} {x : Obj} (h : w.heap[b]? = some x) (o : Obj) : (w.alloc o).heap[b]? = some x := (Below.heap_alloc _ _ _ (lt_of_heap h)).trans h
end Go.Proofs.YtlfbnfphocpgeaaGreatDoor.Kit
namespace Go.Proofs.YtlfbnfphocpgeaaGreatDoor.Byt
open Go.RowKit Kit Go.ChangeShapes Go.WideShapes
def bytesV (l : List Nat) : List Value := l.map fun x : Nat => .int .u8 (x : Int)
theorem infoByte : (Tryz.prog.info? 5).map (fun i => (i.zero, i.size, i.bytes)) = some (some (.int .u8 0), 1, 1) := by kernel_rfl
/-- The slice v holds the bytes l. -/
def Bs (w : World) (v : Value) (l : List Nat) : Prop :=
  (∀ b ∈ l, b < 256) ∧ ∃ a c, v = .slice a l.length c ∧ l.length ≤ c ∧
    (l = [] ∨ ∃ g off, a = some ⟨g, off, none⟩ ∧ g < w.heap.size ∧ ∀ (i x : Nat), l[i]? = some x → w.cell? ⟨g, off + i, none⟩ = some (.int .u8 (x : Int)))
theorem Bs.below {w w' : World} {v : Value} {l : List Nat} (h : Bs w v l) (b : Below w.heap.size w w') : Bs w' v l := by
  obtain ⟨hb, a, c, rfl, hc, h⟩ := h
  refine ⟨hb, a, c, rfl, hc, ?_⟩
  rcases h with h | ⟨g, off, ha, hg, hx⟩
  · exact .inl h
  · exact .inr ⟨g, off, ha, Nat.lt_of_lt_of_le hg b.size, fun i x hi => (b.cell (p := ⟨g, off + i, none⟩) hg).trans (hx i x hi)⟩
theorem Bs.nil (w : World) : Bs w (.slice none 0 0) [] := ⟨by simp, none, 0, rfl, Nat.le_refl _, .inl rfl⟩
/-- The first m of them: 'b[:m]'. -/
theorem Bs.take {w : World} {a : Option Addr} {n c : Nat} {l : List Nat} (h : Bs w (.slice a n c) l) {m : Nat} (hm : m ≤ l.length) : Bs w (.slice a m c) (l.take m) := by
  obtain ⟨hb, a', c', he, hc, h⟩ := h
  injection he with e1 e2 e3
  subst e1; subst e3
  refine ⟨fun b hx => hb b (List.mem_of_mem_take hx), a, c, by rw [List.length_take, Nat.min_eq_left hm], by rw [List.length_take]; omega, ?_⟩
  rcases h with h | ⟨g, off, ha, hg, hx⟩
  · exact .inl (by rw [h]; simp)
  · refine .inr ⟨g, off, ha, hg, fun i x hi => hx i x ?_⟩
    rw [List.getElem?_take] at hi
    split at hi
    · exact hi
    · cases hi
/-- Those behind the first m: 'b[m:]' (of a slice that is not nil). -/
theorem Bs.drop {w : World} {g off n c : Nat} {l : List Nat} (h : Bs w (.slice (some ⟨g, off, none⟩) n c) l) {m : Nat} (hm : m ≤ l.length) : Bs w (.slice (some ⟨g, off + m, none⟩) (n - m) (c - m)) (l.drop m) := by
  obtain ⟨hb, a', c', he, hc, h⟩ := h
  injection he with e1 e2 e3
  subst e1; subst e2; subst e3
  refine ⟨fun b hx => hb b (List.mem_of_mem_drop hx), _, _, by rw [List.length_drop], by rw [List.length_drop]; omega, ?_⟩
  rcases h with h | ⟨g', off', ha, hg, hx⟩
  · exact .inl (by rw [h]; simp)
  · injection ha with ha
    injection ha with h1 h2
    subst h1; subst h2
    refine .inr ⟨g, off + m, rfl, hg, fun i x hi => ?_⟩
    rw [List.getElem?_drop] at hi
    have := hx (m + i) x hi
    rwa [← Nat.add_assoc] at this
/-- 'b[m:]', as the walk spells it: of any slice; and where the capacity ends there. -/
theorem Bs.rest {w : World} {a : Option Addr} {n c : Nat} {l : List Nat} (h : Bs w (.slice a n c) l) {m : Nat} (hm : m ≤ l.length) : Bs w (.slice (Option.map (fun x => x.add m) a) (n - m) (c - m)) (l.drop m) := by
  cases a with
  | none =>
    obtain ⟨hb, a', c', he, hc, h⟩ := h
    injection he with e1 e2 e3
    subst e1; subst e2; subst e3
    refine ⟨fun b hx => hb b (List.mem_of_mem_drop hx), _, _, by rw [List.length_drop], by rw [List.length_drop]; omega, ?_⟩
    rcases h with h | ⟨g', off', ha, _⟩
    · exact .inl (by rw [h]; simp)
    · cases ha
  | some ad =>
    by_cases hl : l = []
    · subst hl
      obtain ⟨_, a', c', he, hc, _⟩ := h
      injection he with e1 e2 e3
      subst e2; subst e3
      exact ⟨by simp, Option.map (fun x => x.add m) (some ad), c - m, by simp, by simp, .inl (by simp)⟩
    · obtain ⟨g, off, ha⟩ : ∃ g off, some ad = some ⟨g, off, none⟩ := by
        obtain ⟨_, a', c', he, _, h'⟩ := id h
        injection he with e1 _ _
        rcases h' with h' | ⟨g, off, h', _⟩
        · exact absurd h' hl
        · exact ⟨g, off, e1.trans h'⟩
      injection ha with ha
      subst ha
      have := h.drop hm
      rw [← Addr.add_lit g off m] at this
      exact this
/-- A slice that a composite literal lays. -/
theorem bs_lit {w : World} {g : Nat} {cs : Array Value} {t : TypeId} {fr : Nat × Nat} {l : List Nat} (h : w.heap[g]? = some (.cells cs t fr)) (hc : cs.toList = bytesV l) (hb : ∀ b ∈ l, b < 256) : Bs w (.slice (some ⟨g, 0, none⟩) l.length l.length) l := by
  refine ⟨hb, _, _, rfl, Nat.le_refl _, .inr ⟨g, 0, rfl, lt_of_heap h, fun i x hi => ?_⟩⟩
  rw [Nat.zero_add, cell_of h, ← Array.getElem?_toList, hc]
  simp [bytesV, hi]
/-- What a slice holds stays where another block is written. -/
theorem Bs.grown {w w' : World} {g off n c : Nat} {l : List Nat} {row : Option Nat} (h : Bs w (.slice (some ⟨g, off, none⟩) n c) l) (hg : w.grownBy w' row) (hne : row ≠ some g) : Bs w' (.slice (some ⟨g, off, none⟩) n c) l := by
  obtain ⟨hb, a, c', he, hc, h⟩ := h
  injection he with e1 e2 e3
  subst e1; subst e3
  refine ⟨hb, _, c, by rw [e2], hc, ?_⟩
  rcases h with h | ⟨g', off', ha, hlt, hx⟩
  · exact .inl h
  · injection ha with ha
    injection ha with h1 h2
    subst h1; subst h2
    refine .inr ⟨g, off, rfl, Nat.lt_of_lt_of_le hlt hg.size, fun i x hi => ?_⟩
    rw [World.cell?_of_block (a := ⟨g, off + i, none⟩) (hg.block g hlt (fun e => hne e.symm))]
    exact hx i x hi
theorem below_freeze {B : Nat} {a w : World} (h : Below B a w) {p : Addr} (hp : B ≤ p.block) (n : Nat) : Below B a (w.freeze p n) := by
  unfold World.freeze
  split
  · exact h
  · refine ⟨h.os, h.tape, h.output, by simp only [Array.size_modify]; exact h.size, fun k hk => ?_⟩
    show (w.heap.modify p.block _)[k]? = _
    rw [Array.getElem?_modify, if_neg (by omega)]
    exact h.block k hk
end Go.Proofs.YtlfbnfphocpgeaaGreatDoor.Byt
namespace Go.Proofs.YtlfbnfphocpgeaaGreatDoor.Byt
open Go.RowKit Kit
/-- The text of these bytes. -/
def textOf (l : List Nat) : ByteArray := ⟨(l.map UInt8.ofNat).toArray⟩
set_option maxRecDepth 100000 in
theorem convert_text {w : World} {a : Option Addr} {n c : Nat} {l : List Nat} (h : Bs w (.slice a n c) l) : (convert 60 9 (.slice a n c)).run Tryz.prog w = .ok (.string (textOf l)) w := by
  obtain ⟨hb, a', c', he, _, h⟩ := h
  injection he with e1 e2 e3
  subst e1; subst e2
  have hlen : (l.map UInt8.ofNat).length = l.length := by simp
  cases a with
  | none =>
    have hl : l = [] := by
      rcases h with h | ⟨_, _, ha, _⟩
      · exact h
      · cases ha
    subst hl
    exact Lib.run_convert_nil_bytes w 60 9 5 c Tryz.underlying60 Tryz.underlying5 Tryz.underlying9
  | some ad =>
    have := run_convert_bytes_back (P := Tryz.prog) w 60 9 5 ad c (l.map UInt8.ofNat) Tryz.underlying60 Tryz.underlying5 Tryz.underlying9 (fun j hj => by
      rw [hlen] at hj
      rcases h with h | ⟨g, off, ha, _, hx⟩
      · rw [h] at hj; simp at hj
      · injection ha with ha
        subst ha
        rw [Addr.add_lit, hx j l[j] (List.getElem?_eq_getElem hj)]
        have hlt := hb l[j] (List.getElem_mem hj)
        simp
        omega)
    rw [hlen] at this
    exact this
end Go.Proofs.YtlfbnfphocpgeaaGreatDoor.Byt
namespace Go.Proofs.YtlfbnfphocpgeaaGreatDoor.Txt
open Go.RowKit Kit Utf
/-- A text as a value. -/
def txt (l : List UInt8) : ByteArray := ⟨l.toArray⟩
theorem txt_size (l : List UInt8) : (txt l).size = l.length := by simp [txt, ByteArray.size]
theorem txt_data (s : ByteArray) : s = txt s.data.toList := by simp [txt]
theorem txt_list (l : List UInt8) : (txt l).data.toList = l := by simp [txt]
theorem nb_past {l : List UInt8} {i : Nat} (h : l.length ≤ i) : nb l i = 0 := by
  unfold nb
  rw [List.getD_eq_getElem?_getD, List.getElem?_eq_none h]
  rfl
theorem nb_get {l : List UInt8} {i : Nat} (h : i < l.length) : nb l i = (l[i]).toNat := by
  unfold nb
  rw [List.getD_eq_getElem?_getD, List.getElem?_eq_getElem h]
  rfl
/-- 's[i]'. -/
theorem idx {l : List UInt8} {i : Nat} (h : i < l.length) (wx : World) : (Instr.index 9 (.string (txt l)) (.int .i64 (i : Int))).run Tryz.prog wx = .ok (.int .u8 (nb l i : Int)) wx := by
  have hs := txt_size l
  rw [run_index_string wx 9 (txt l) .i64 i Tryz.underlying9, dif_pos ⟨by omega, by omega⟩]
  congr 3
  unfold nb
  rw [List.getD_eq_getElem?_getD, List.getElem?_eq_getElem h]
  rfl
theorem txt_extract (l : List UInt8) (i j : Nat) : (txt l).extract i j = txt ((l.drop i).take (j - i)) := by
  apply ByteArray.ext
  apply Array.ext'
  rw [ByteArray.data_extract, Array.toList_extract, List.extract_eq_take_drop]
  rfl
/-- 's[:k]', 's[k:]', 's[i:j]'. -/
theorem slH {l : List UInt8} {z : Int} {k : Nat} (hz : z = (k : Int)) (hk : k ≤ l.length) (wx : World) : (Instr.slice 9 (.string (txt l)) none (some (.int .i64 z)) none).run Tryz.prog wx = .ok (.string (txt (l.take k))) wx := by
  subst hz
  have hs := txt_size l
  rw [run_slice_string_h (P := Tryz.prog) wx 9 (txt l) Tryz.underlying9 .i64 k (by omega) (by omega), txt_extract]
  simp
theorem slL {l : List UInt8} {z : Int} {k : Nat} (hz : z = (k : Int)) (hk : k ≤ l.length) (wx : World) : (Instr.slice 9 (.string (txt l)) (some (.int .i64 z)) none none).run Tryz.prog wx = .ok (.string (txt (l.drop k))) wx := by
  subst hz
  have hs := txt_size l
  rw [run_slice_string_l (P := Tryz.prog) wx 9 (txt l) Tryz.underlying9 .i64 k (by omega) (by omega), txt_extract]
  rw [hs, Int.toNat_natCast, List.take_of_length_le (by rw [List.length_drop]; omega)]
theorem add_txt (a b : List UInt8) : txt a ++ txt b = txt (a ++ b) := by
  apply ByteArray.ext
  simp [txt]
/-- '+' of two texts: its size is an int. -/
theorem add_fit {a b : List UInt8} (ha : a.length < 1000000000000) (hb : b.length < 1000000000000) : ¬ (9223372036854775807 < (txt a).size + (txt b).size) := by
  have h1 := txt_size a
  have h2 := txt_size b
  omega
/-- '+' of two texts, what it holds and that it fits, with the second one's bytes under a name of their own. -/
theorem add_lit {a b c : List UInt8} {s : ByteArray} (hs : s = txt b) (hc : a ++ b = c) (ha : a.length < 1000000000000) (hb : b.length < 1000000000000) : ¬ (9223372036854775807 < (txt a).size + s.size) ∧ txt a ++ s = txt c := by
  subst hs; subst hc
  exact ⟨add_fit ha hb, add_txt a b⟩
theorem txt_ne {a b : List UInt8} (h : a ≠ b) : ((txt a).toList == (txt b).toList) = false := by
  unfold txt
  rw [ByteArray.toList_mk, ByteArray.toList_mk]
  simpa using h
/-- One byte, as a text; behind a call that left it alone; behind a draw. -/
theorem one_text_after {W w1 : World} {x : Int} {g : Nat} (k : Below W.heap.size W w1) (h : W.heap[g]? = some (.cells #[.int .u8 x] 5 (0, 0))) (m : Nat) (hm : m < 256) (e : x = (m : Int)) :
    (convert 60 9 (.slice (some ⟨g, 0, none⟩) 1 1)).run Tryz.prog w1 = .ok (.string (txt [UInt8.ofNat m])) w1 := by
  subst e
  have hx : Byt.Bs W (.slice (some ⟨g, 0, none⟩) [m].length [m].length) [m] := Byt.bs_lit h rfl (by simpa using hm)
  exact Byt.convert_text (hx.below k)
theorem one_text (w : World) (x : Int) (m : Nat) (hm : m < 256) (e : x = (m : Int)) : (convert 60 9 (.slice (some ⟨w.heap.size, 0, none⟩) 1 1)).run Tryz.prog (w.alloc (.cells #[.int .u8 x] 5)) = .ok (.string (txt [UInt8.ofNat m])) (w.alloc (.cells #[.int .u8 x] 5)) :=
  one_text_after (Below.refl _ _) (World.alloc_heap_new w _) m hm e
end Go.Proofs.YtlfbnfphocpgeaaGreatDoor.Txt
namespace Go.Proofs.YtlfbnfphocpgeaaGreatDoor.Tre
open Go.RowKit Kit Txt
open Num (Dec zero)
/-- The slice holds the texts. -/
def Ks (w : World) (u : Value) (ls : List (List UInt8)) : Prop :=
  ∃ a c, u = .slice a ls.length c ∧ ls.length ≤ c ∧ c ≤ 9223372036854775807 ∧ (ls = [] ∨ ∃ g off, a = some ⟨g, off, none⟩ ∧ g < w.heap.size ∧ ∀ (i : Nat) (l : List UInt8), ls[i]? = some l → w.cell? ⟨g, off + i, none⟩ = some (.string (txt l)))
theorem Ks.below {w w' : World} {u : Value} {ls : List (List UInt8)} (h : Ks w u ls) (b : Below w.heap.size w w') : Ks w' u ls := by
  obtain ⟨a, c, rfl, hc, hm, h⟩ := h
  refine ⟨a, c, rfl, hc, hm, ?_⟩
  rcases h with h | ⟨g, off, ha, hg, hx⟩
  · exact .inl h
  · exact .inr ⟨g, off, ha, Nat.lt_of_lt_of_le hg b.size, fun i l hi => (b.cell (p := ⟨g, off + i, none⟩) hg).trans (hx i l hi)⟩
/-- The eight cells of a value at a place. -/
def At8 (w : World) (g off : Nat) (cs : List Value) : Prop := cs.length = 8 ∧ ∀ j, j < 8 → w.cell? ⟨g, off + j, none⟩ = cs[j]?
theorem At8.below {w w' : World} {g off : Nat} {cs : List Value} (h : At8 w g off cs) (hg : g < w.heap.size) (b : Below w.heap.size w w') : At8 w' g off cs :=
  ⟨h.1, fun j hj => (b.cell (p := ⟨g, off + j, none⟩) hg).trans (h.2 j hj)⟩
/-- A value's cells. -/
def cellsV (k : Int) (i : Bool) (n : Dec) (s : List UInt8) (uk uv : Value) : List Value := [.int .i64 k, .bool i, .bool n.neg, .string (txt n.dig), .int .i64 n.exp, .string (txt s), uk, uv]
mutual
/-- The cells hold the value. -/
def Hold (w : World) (cs : List Value) : Val → Prop
  | ⟨k, i, n, s, ks, vs⟩ => ∃ uk a c, cs = cellsV k i n s uk (.slice a vs.length c) ∧ Ks w uk ks ∧ vs.length ≤ c ∧ c ≤ 9223372036854775807 ∧ (vs = [] ∨ ∃ g off, a = some ⟨g, off, none⟩ ∧ g < w.heap.size ∧ Holds w g off vs)
/-- From a place on, value by value. -/
def Holds (w : World) (g off : Nat) : List Val → Prop
  | [] => True
  | v :: r => (∃ cs, At8 w g off cs ∧ Hold w cs v) ∧ Holds w g (off + 8) r
end
mutual
theorem Hold.below {w w' : World} (b : Below w.heap.size w w') : ∀ (v : Val) {cs : List Value}, Hold w cs v → Hold w' cs v
  | ⟨k, i, n, s, ks, vs⟩, cs, h => by
    rw [Hold] at h ⊢
    obtain ⟨uk, a, c, hcs, hk, hc, hm, h⟩ := h
    refine ⟨uk, a, c, hcs, hk.below b, hc, hm, ?_⟩
    rcases h with h | ⟨g, off, ha, hg, hx⟩
    · exact .inl h
    · exact .inr ⟨g, off, ha, Nat.lt_of_lt_of_le hg b.size, Holds.below b vs hg hx⟩
theorem Holds.below {w w' : World} (b : Below w.heap.size w w') : ∀ (vs : List Val) {g off : Nat}, g < w.heap.size → Holds w g off vs → Holds w' g off vs
  | [], _, _, _, _ => by rw [Holds]; trivial
  | v :: r, g, off, hg, h => by
    rw [Holds] at h ⊢
    obtain ⟨⟨cs, h8, hv⟩, hr⟩ := h
    exact ⟨⟨cs, h8.below hg b, Hold.below b v hv⟩, Holds.below b r hg hr⟩
end
theorem Holds.at {w : World} {g : Nat} : ∀ {vs : List Val} {off : Nat}, Holds w g off vs → ∀ {i : Nat} {v : Val}, vs[i]? = some v → ∃ cs, At8 w g (off + i * 8) cs ∧ Hold w cs v
  | [], _, _, _, _, hi => by simp at hi
  | x :: r, off, h, 0, v, hi => by
    rw [Holds] at h
    simp at hi
    subst hi
    simpa using h.1
  | x :: r, off, h, i + 1, v, hi => by
    rw [Holds] at h
    have := Holds.at h.2 (i := i) (v := v) (by simpa using hi)
    rwa [show off + (i + 1) * 8 = off + 8 + i * 8 by omega]
/-- A value by its cells. -/
def HoldV (w : World) (u : Value) (v : Val) : Prop := ∃ cs : List Value, u = .agg cs.toArray ∧ Hold w cs v
theorem HoldV.below {w w' : World} {u : Value} {v : Val} (h : HoldV w u v) (b : Below w.heap.size w w') : HoldV w' u v := by
  obtain ⟨cs, hu, hc⟩ := h
  exact ⟨cs, hu, Hold.below b v hc⟩
/-- The eight cells, one by one. -/
theorem At8.cells {w : World} {g off : Nat} {k : Int} {i : Bool} {n : Dec} {s : List UInt8} {uk uv : Value} (h : At8 w g off (cellsV k i n s uk uv)) :
    w.cell? ⟨g, off, none⟩ = some (.int .i64 k) ∧ w.cell? ⟨g, off + 1, none⟩ = some (.bool i) ∧ w.cell? ⟨g, off + 2, none⟩ = some (.bool n.neg) ∧ w.cell? ⟨g, off + 3, none⟩ = some (.string (txt n.dig)) ∧
    w.cell? ⟨g, off + 4, none⟩ = some (.int .i64 n.exp) ∧ w.cell? ⟨g, off + 5, none⟩ = some (.string (txt s)) ∧ w.cell? ⟨g, off + 6, none⟩ = some uk ∧ w.cell? ⟨g, off + 7, none⟩ = some uv :=
  ⟨h.2 0 (by omega), h.2 1 (by omega), h.2 2 (by omega), h.2 3 (by omega), h.2 4 (by omega), h.2 5 (by omega), h.2 6 (by omega), h.2 7 (by omega)⟩
theorem eight {W : World} {g : Nat} {a b c d e f x y : Value} {t : TypeId} {fr : Nat × Nat} (h : W.heap[g]? = some (.cells #[a, b, c, d, e, f, x, y] t fr)) :
    W.cell? ⟨g, 0, none⟩ = some a ∧ W.cell? ⟨g, 1, none⟩ = some b ∧ W.cell? ⟨g, 2, none⟩ = some c ∧ W.cell? ⟨g, 3, none⟩ = some d ∧ W.cell? ⟨g, 4, none⟩ = some e ∧ W.cell? ⟨g, 5, none⟩ = some f ∧ W.cell? ⟨g, 6, none⟩ = some x ∧ W.cell? ⟨g, 7, none⟩ = some y :=
  ⟨cell_of h 0, cell_of h 1, cell_of h 2, cell_of h 3, cell_of h 4, cell_of h 5, cell_of h 6, cell_of h 7⟩
mutual
theorem ind1 {M : Val → Prop} (h : ∀ v : Val, (∀ x ∈ v.kids, M x) → M v) : ∀ v : Val, M v
  | ⟨k, i, n, s, ks, vs⟩ => h ⟨k, i, n, s, ks, vs⟩ (ind2 h vs)
theorem ind2 {M : Val → Prop} (h : ∀ v : Val, (∀ x ∈ v.kids, M x) → M v) : ∀ vs : List Val, ∀ x ∈ vs, M x
  | [], x, hx => absurd hx List.not_mem_nil
  | v :: r, x, hx => by
    rcases List.mem_cons.1 hx with e | hx
    · rw [e]
      exact ind1 h v
    · exact ind2 h r x hx
end
end Go.Proofs.YtlfbnfphocpgeaaGreatDoor.Tre
