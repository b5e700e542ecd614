/- A part of what cuts_holds leans on (its texts, put together). Nothing is claimed here. -/
import Derived.Test.YtlfbnfphocpgeaaGreatDoorRows
import Derived.WalkKit
import Derived.ProofKit
import Derived.OpenShut
import Derived.Carry
import Derived.StillTailTactics
import Derived.Deep.QuietTactic
import Derived.WalkSpells
import Derived.WalkLawsBesides
import Derived.Deep.AppendSrc
import Derived.RangeFuncBox
import Derived.Lib.BufferRead
import Derived.Lib.Hide
import Derived.Deep.Cut
import Derived.Deep.RegionWith
import Derived.Deep.RegionHeld3
import Derived.Deep.CutRange
namespace Go.Proofs.YtlfbnfphocpgeaaGreatDoor.Num
/-- The byte at a place, as a number (0 behind the end). -/
def nb (l : List UInt8) (i : Nat) : Nat := (l.getD i 0).toNat
theorem nb_lt (l : List UInt8) (i : Nat) : nb l i < 256 := (l.getD i 0).toNat_lt
theorem nb_app (A B : List UInt8) (i : Nat) : nb (A ++ B) (A.length + i) = nb B i := by
  unfold nb
  rw [List.getD_eq_getElem?_getD, List.getD_eq_getElem?_getD, List.getElem?_append_right (by omega), Nat.add_sub_cancel_left]
theorem nb_zero (c : UInt8) (l : List UInt8) : nb (c :: l) 0 = c.toNat := rfl
theorem nb_nil (i : Nat) : nb [] i = 0 := rfl
theorem nb_past {l : List UInt8} {i : Nat} (h : l.length ≤ i) : nb l i = 0 := by
  unfold nb
  rw [List.getD_eq_getElem?_getD, List.getElem?_eq_none h]
  rfl
def dg (b : UInt8) : Bool := decide (48 ≤ b.toNat ∧ b.toNat ≤ 57)
def DigAt (l : List UInt8) (i : Nat) : Prop := 48 ≤ nb l i ∧ nb l i ≤ 57
instance (l : List UInt8) (i : Nat) : Decidable (DigAt l i) := by unfold DigAt; exact inferInstance
theorem digAt_app (A B : List UInt8) (i : Nat) : DigAt (A ++ B) (A.length + i) ↔ DigAt B i := by unfold DigAt; rw [nb_app]
theorem digAt_lt {l : List UInt8} {i : Nat} (h : DigAt l i) : i < l.length := by
  by_cases hl : i < l.length
  · exact hl
  · have := nb_past (l := l) (i := i) (by omega)
    unfold DigAt at h
    omega
theorem digAt_dg {l : List UInt8} {i : Nat} (h : i < l.length) : DigAt l i ↔ dg l[i] = true := by
  unfold DigAt dg nb
  rw [List.getD_eq_getElem?_getD, List.getElem?_eq_getElem h]
  simp
/-- Where the digits end that begin at i. -/
def run (l : List UInt8) (i : Nat) : Nat := i + ((l.drop i).takeWhile dg).length
theorem run_on {l : List UInt8} {i : Nat} (h : DigAt l i) : run l i = run l (i + 1) := by
  have hl := digAt_lt h
  unfold run
  rw [List.drop_eq_getElem_cons hl, List.takeWhile_cons, if_pos ((digAt_dg hl).1 h), List.length_cons]
  omega
theorem run_stop {l : List UInt8} {i : Nat} (h : ¬ DigAt l i) : run l i = i := by
  unfold run
  by_cases hl : i < l.length
  · rw [List.drop_eq_getElem_cons hl, List.takeWhile_cons, if_neg (fun e => h ((digAt_dg hl).2 e))]
    rfl
  · rw [List.drop_eq_nil_of_le (by omega)]
    rfl
theorem run_ge (l : List UInt8) (i : Nat) : i ≤ run l i := Nat.le_add_right _ _
theorem run_le {l : List UInt8} {i : Nat} (h : i ≤ l.length) : run l i ≤ l.length := by
  unfold run
  have : ((l.drop i).takeWhile dg).length ≤ (l.drop i).length := (List.takeWhile_sublist _).length_le
  rw [List.length_drop] at this
  omega
theorem run_app (A B : List UInt8) (i : Nat) : run (A ++ B) (A.length + i) = A.length + run B i := by
  unfold run
  rw [show A.length + i = A.length + i from rfl, List.drop_append, List.drop_eq_nil_of_le (by omega), List.nil_append, Nat.add_sub_cancel_left]
  omega
theorem run_all {X B : List UInt8} (hX : ∀ x ∈ X, dg x = true) (hB : ¬ DigAt B 0) : run (X ++ B) 0 = X.length := by
  induction X with
  | nil => simpa using run_stop hB
  | cons x X ih =>
    have hx : DigAt (x :: X ++ B) 0 := (digAt_dg (by simp)).2 (by simpa using hX x (by simp))
    rw [run_on hx]
    have := run_app [x] (X ++ B) 0
    rw [ih (fun y h => hX y (by simp [h]))] at this
    simpa [Nat.add_comm] using this
/-- Where the whole part ends, the fraction, the power. -/
def intEnd (l : List UInt8) (i : Nat) : Nat := if nb l i = 48 then i + 1 else run l i
def fracEnd (l : List UInt8) (i : Nat) : Nat := if nb l i = 46 ∧ DigAt l (i + 1) then run l (i + 1) else i
def signEnd (l : List UInt8) (k : Nat) : Nat := if nb l k = 43 ∨ nb l k = 45 then k + 1 else k
def expEnd (l : List UInt8) (i : Nat) : Nat := if (nb l i = 101 ∨ nb l i = 69) ∧ DigAt l (signEnd l (i + 1)) then run l (signEnd l (i + 1)) else i
def neg0 (l : List UInt8) : Nat := if nb l 0 = 45 then 1 else 0
def scan (l : List UInt8) : Nat := if DigAt l (neg0 l) then expEnd l (fracEnd l (intEnd l (neg0 l))) else 0
theorem intEnd_app (A B : List UInt8) (i : Nat) : intEnd (A ++ B) (A.length + i) = A.length + intEnd B i := by
  unfold intEnd
  rw [nb_app, run_app]
  split <;> omega
theorem fracEnd_app (A B : List UInt8) (i : Nat) : fracEnd (A ++ B) (A.length + i) = A.length + fracEnd B i := by
  unfold fracEnd
  simp only [nb_app, Nat.add_assoc, digAt_app, run_app]
  split <;> omega
theorem signEnd_app (A B : List UInt8) (i : Nat) : signEnd (A ++ B) (A.length + i) = A.length + signEnd B i := by
  unfold signEnd
  rw [nb_app]
  split <;> omega
theorem expEnd_app (A B : List UInt8) (i : Nat) : expEnd (A ++ B) (A.length + i) = A.length + expEnd B i := by
  unfold expEnd
  simp only [nb_app, Nat.add_assoc, signEnd_app, digAt_app, run_app]
  split <;> omega
/-- A text in its parts: the sign, the whole part, the fraction, the power. -/
def fracT (F : List UInt8) : List UInt8 := if F = [] then [] else 46 :: F
def negT (n : Bool) : List UInt8 := if n then [45] else []
def expT : Option (UInt8 × List UInt8 × List UInt8) → List UInt8
  | none => []
  | some (m, s, E) => m :: (s ++ E)
def text (n : Bool) (I F : List UInt8) (x : Option (UInt8 × List UInt8 × List UInt8)) : List UInt8 := negT n ++ (I ++ (fracT F ++ expT x))
structure Parts (I F : List UInt8) (x : Option (UInt8 × List UInt8 × List UInt8)) : Prop where
  ne : I ≠ []
  whole : ∀ c ∈ I, dg c = true
  head : I = [48] ∨ I.head? ≠ some 48
  frac : ∀ c ∈ F, dg c = true
  mark : ∀ m s E, x = some (m, s, E) → (m = 101 ∨ m = 69) ∧ (s = [] ∨ s = [43] ∨ s = [45]) ∧ E ≠ [] ∧ ∀ c ∈ E, dg c = true
theorem dg_num {c : UInt8} (h : dg c = true) : 48 ≤ c.toNat ∧ c.toNat ≤ 57 := by simpa [dg] using h
theorem digAt_head {c : UInt8} {l : List UInt8} (h : dg c = true) : DigAt (c :: l) 0 := by unfold DigAt; rw [nb_zero]; exact dg_num h
theorem expEnd_text {I F : List UInt8} {x : Option (UInt8 × List UInt8 × List UInt8)} (h : Parts I F x) : expEnd (expT x) 0 = (expT x).length := by
  match x, h with
  | none, _ => rfl
  | some (m, s, E), h =>
    obtain ⟨hm, hs, hE, hd⟩ := h.mark m s E rfl
    obtain ⟨e, E', rfl⟩ := List.exists_cons_of_ne_nil hE
    have he := dg_num (hd e (by simp))
    have h1 : nb (expT (some (m, s, e :: E'))) 0 = 101 ∨ nb (expT (some (m, s, e :: E'))) 0 = 69 := by
      show m.toNat = 101 ∨ m.toNat = 69
      rcases hm with rfl | rfl
      · exact .inl rfl
      · exact .inr rfl
    have h2 : signEnd (expT (some (m, s, e :: E'))) (0 + 1) = ([m] ++ s).length + 0 := by
      have := signEnd_app [m] (s ++ (e :: E')) 0
      show signEnd ([m] ++ (s ++ (e :: E'))) ([m].length + 0) = _
      rw [this]
      rcases hs with rfl | rfl | rfl
      · show [m].length + signEnd (e :: E') 0 = _
        unfold signEnd
        rw [nb_zero, if_neg (by omega)]
        rfl
      · rfl
      · rfl
    have h3 : expT (some (m, s, e :: E')) = ([m] ++ s) ++ (e :: E') := by simp [expT]
    have h4 := run_all (X := e :: E') (B := []) hd (by unfold DigAt; rw [nb_nil]; omega)
    rw [List.append_nil] at h4
    unfold expEnd
    rw [h2, h3]
    simp only [digAt_app, run_app]
    rw [if_pos ⟨by rw [← h3]; exact h1, digAt_head (hd e (by simp))⟩, h4]
    simp
    omega
theorem not_dig_exp {I F : List UInt8} {x : Option (UInt8 × List UInt8 × List UInt8)} (h : Parts I F x) : ¬ DigAt (expT x) 0 ∧ nb (expT x) 0 ≠ 46 := by
  match x, h with
  | none, _ => unfold DigAt; show ¬ (48 ≤ 0 ∧ _) ∧ 0 ≠ 46; omega
  | some (m, s, E), h =>
    obtain ⟨hm, _⟩ := h.mark m s E rfl
    unfold DigAt
    show ¬ (48 ≤ m.toNat ∧ m.toNat ≤ 57) ∧ m.toNat ≠ 46
    rcases hm with rfl | rfl <;> decide
theorem fracEnd_text {I F : List UInt8} {x : Option (UInt8 × List UInt8 × List UInt8)} (h : Parts I F x) : fracEnd (fracT F ++ expT x) 0 = (fracT F).length := by
  have hx := not_dig_exp h
  by_cases hF : F = []
  · subst hF
    show fracEnd (expT x) 0 = 0
    unfold fracEnd
    rw [if_neg (fun e => hx.2 e.1)]
  · obtain ⟨f, F', rfl⟩ := List.exists_cons_of_ne_nil hF
    have h1 : fracT (f :: F') ++ expT x = [46] ++ ((f :: F') ++ expT x) := by simp [fracT]
    rw [h1]
    unfold fracEnd
    have h2 := digAt_app [46] ((f :: F') ++ expT x) 0
    have h3 := run_app [46] ((f :: F') ++ expT x) 0
    rw [if_pos ⟨rfl, h2.2 (digAt_head (h.frac f (by simp)))⟩]
    refine h3.trans ?_
    rw [run_all h.frac hx.1]
    simp [fracT]
    omega
theorem not_dig_frac {I F : List UInt8} {x : Option (UInt8 × List UInt8 × List UInt8)} (h : Parts I F x) : ¬ DigAt (fracT F ++ expT x) 0 := by
  by_cases hF : F = []
  · subst hF
    exact (not_dig_exp h).1
  · have h1 : fracT F ++ expT x = 46 :: (F ++ expT x) := by simp [fracT, hF]
    rw [h1]
    unfold DigAt
    rw [nb_zero]
    decide
theorem intEnd_text {I F : List UInt8} {x : Option (UInt8 × List UInt8 × List UInt8)} (h : Parts I F x) : intEnd (I ++ (fracT F ++ expT x)) 0 = I.length := by
  rcases h.head with rfl | hh
  · rfl
  · obtain ⟨c, I', rfl⟩ := List.exists_cons_of_ne_nil h.ne
    unfold intEnd
    have hc : nb (c :: I' ++ (fracT F ++ expT x)) 0 ≠ 48 := by
      show c.toNat ≠ 48
      intro e
      apply hh
      simp
      exact UInt8.toNat_inj.1 e
    rw [if_neg hc, run_all h.whole (not_dig_frac h)]
theorem neg0_text (n : Bool) {I F : List UInt8} {x : Option (UInt8 × List UInt8 × List UInt8)} (h : Parts I F x) : neg0 (text n I F x) = (negT n).length := by
  obtain ⟨c, I', rfl⟩ := List.exists_cons_of_ne_nil h.ne
  have hc := dg_num (h.whole c (by simp))
  cases n with
  | true => rfl
  | false =>
    unfold neg0
    rw [if_neg]
    · rfl
    · show ¬ c.toNat = 45
      omega
theorem scan_text (n : Bool) {I F : List UInt8} {x : Option (UInt8 × List UInt8 × List UInt8)} (h : Parts I F x) : scan (text n I F x) = (text n I F x).length := by
  have h0 := neg0_text n h
  have h1 := intEnd_app (negT n) (I ++ (fracT F ++ expT x)) 0
  have h2 := fracEnd_app (negT n ++ I) (fracT F ++ expT x) 0
  have h3 := expEnd_app (negT n ++ I ++ fracT F) (expT x) 0
  rw [intEnd_text h] at h1
  rw [fracEnd_text h] at h2
  rw [expEnd_text h] at h3
  have e1 : text n I F x = negT n ++ (I ++ (fracT F ++ expT x)) := rfl
  have e2 : text n I F x = negT n ++ I ++ (fracT F ++ expT x) := by rw [e1, List.append_assoc]
  have e3 : text n I F x = negT n ++ I ++ fracT F ++ expT x := by rw [e2, List.append_assoc (negT n ++ I)]
  have hd : DigAt (text n I F x) (negT n).length := by
    obtain ⟨c, I', rfl⟩ := List.exists_cons_of_ne_nil h.ne
    have := (digAt_app (negT n) ((c :: I') ++ (fracT F ++ expT x)) 0).2 (digAt_head (h.whole c (by simp)))
    exact this
  unfold scan
  rw [h0, if_pos hd]
  rw [← e1, Nat.add_zero] at h1
  rw [← e2, Nat.add_zero, List.length_append] at h2
  rw [← e3, Nat.add_zero] at h3
  simp only [List.length_append] at h3
  rw [h1, h2, h3, e3]
  simp only [List.length_append]
/-- A number. -/
structure Dec where
  neg : Bool
  dig : List UInt8
  exp : Int
  deriving DecidableEq
def zero : Dec := ⟨false, [], 0⟩
def Right (n : Dec) : Prop :=
  if n.dig = [] then n.neg = false ∧ n.exp = 0
  else n.dig.length ≤ 1000 ∧ -10000 ≤ n.exp ∧ n.exp ≤ 10000 ∧ (∀ c ∈ n.dig, dg c = true) ∧ nb n.dig 0 ≠ 48 ∧ nb n.dig (n.dig.length - 1) ≠ 48
instance (n : Dec) : Decidable (Right n) := by unfold Right; exact inferInstance
/-- The mantissa, byte by byte: behind the point; how many digits behind it, less than nothing; the digits from the first that isn't 0 on. -/
def mantStep (st : Bool × Int × List UInt8) (c : UInt8) : Bool × Int × List UInt8 :=
  if c = 46 then (true, st.2.1, st.2.2) else (st.1, if st.1 then st.2.1 - 1 else st.2.1, if st.2.2 ≠ [] ∨ c ≠ 48 then st.2.2 ++ [c] else st.2.2)
def noE (c : UInt8) : Bool := decide (c ≠ 101 ∧ c ≠ 69)
def mantL (l : List UInt8) (i : Nat) : List UInt8 := (l.drop i).takeWhile noE
def mant (M : List UInt8) : Bool × Int × List UInt8 := M.foldl mantStep (false, 0, [])
/-- The power, byte by byte: its size, and whether it is one down. -/
def expStep (st : Nat × Bool) (c : UInt8) : Nat × Bool := (if dg c = true ∧ st.1 < 1000000000 then st.1 * 10 + (c.toNat - 48) else st.1, st.2 || decide (c = 45))
def expo (X : List UInt8) : Nat × Bool := X.foldl expStep (0, false)
def z48 (c : UInt8) : Bool := decide (c = 48)
/-- Without the noughts at the end. -/
def strip (d : List UInt8) (e : Int) : List UInt8 × Int := ((d.reverse.dropWhile z48).reverse, e + (d.reverse.takeWhile z48).length)
theorem strip_on {d : List UInt8} (h : nb d (d.length - 1) = 48) (e : Int) : strip d e = strip d.dropLast (e + 1) := by
  rcases List.eq_nil_or_concat d with rfl | ⟨d', c, rfl⟩
  · rw [nb_nil] at h; omega
  · have hc : c = 48 := by
      have := nb_app d' [c] 0
      simp at h this
      rw [h, nb_zero] at this
      exact UInt8.toNat_inj.1 this.symm
    subst hc
    unfold strip
    simp [z48]
    omega
theorem strip_stop {d : List UInt8} (h : nb d (d.length - 1) ≠ 48) (e : Int) : strip d e = (d, e) := by
  rcases List.eq_nil_or_concat d with rfl | ⟨d', c, rfl⟩
  · simp [strip]
  · have hc : c ≠ 48 := by
      rintro rfl
      have := nb_app d' [48] 0
      simp at h this
      exact h this
    unfold strip
    simp [z48, hc]
/-- What is told of digits and a power. -/
def norm (n : Bool) (d : List UInt8) (e : Int) : Dec × Nat :=
  if (strip d e).1 = [] then (zero, 0) else if Right ⟨n, (strip d e).1, (strip d e).2⟩ then (⟨n, (strip d e).1, (strip d e).2⟩, 0) else (zero, 4)
def powOf (x : Nat × Bool) : Int := if x.2 then -(x.1 : Int) else x.1
def parse (l : List UInt8) : Dec × Nat :=
  if l = [] ∨ scan l ≠ l.length then (zero, 3)
  else norm (decide (nb l 0 = 45)) (mant (mantL l (neg0 l))).2.2 ((mant (mantL l (neg0 l))).2.1 + powOf (expo (l.drop (neg0 l + (mantL l (neg0 l)).length + 1))))
theorem mant_run (X : List UInt8) (hX : ∀ c ∈ X, dg c = true) (p : Bool) (e : Int) (d : List UInt8) :
    X.foldl mantStep (p, e, d) = (p, (if p then e - X.length else e), if d = [] then X.dropWhile z48 else d ++ X) := by
  induction X generalizing e d with
  | nil => by_cases hd : d = [] <;> cases p <;> simp [hd]
  | cons c X ih =>
    have hc := dg_num (hX c (by simp))
    have h46 : c ≠ 46 := by rintro rfl; revert hc; decide
    rw [List.foldl_cons, show mantStep (p, e, d) c = (p, if p then e - 1 else e, if d ≠ [] ∨ c ≠ 48 then d ++ [c] else d) by unfold mantStep; rw [if_neg h46], ih (fun y h => hX y (by simp [h]))]
    by_cases hd : d = []
    · subst hd
      by_cases h0 : c = 48
      · subst h0
        cases p <;> simp [z48] <;> omega
      · cases p <;> simp [z48, h0] <;> omega
    · cases p <;> simp [hd] <;> omega
theorem mant_text {I F : List UInt8} (hI : ∀ c ∈ I, dg c = true) (hF : ∀ c ∈ F, dg c = true) : (mant (I ++ fracT F)).2 = (-(F.length : Int), (I ++ F).dropWhile z48) := by
  unfold mant
  rw [List.foldl_append, mant_run I hI]
  by_cases h : F = []
  · subst h
    simp [fracT]
  · rw [show fracT F = 46 :: F by simp [fracT, h], List.foldl_cons]
    have : mantStep (false, if false = true then 0 - (I.length : Int) else 0, if ([] : List UInt8) = [] then I.dropWhile z48 else [] ++ I) 46 = (true, 0, I.dropWhile z48) := by simp [mantStep]
    rw [this, mant_run F hF, List.dropWhile_append]
    simp
theorem mantL_text (n : Bool) {I F : List UInt8} {x : Option (UInt8 × List UInt8 × List UInt8)} (h : Parts I F x) : mantL (text n I F x) (neg0 (text n I F x)) = I ++ fracT F := by
  rw [neg0_text n h]
  unfold mantL text
  rw [List.drop_left]
  have hd : ∀ c, dg c = true → noE c = true := by
    intro c hc
    have := dg_num hc
    simp only [noE, decide_eq_true_eq]
    constructor <;> rintro rfl <;> revert this <;> decide
  have h1 : ∀ c ∈ I ++ fracT F, noE c = true := by
    intro c hc
    rcases List.mem_append.1 hc with hc | hc
    · exact hd c (h.whole c hc)
    · unfold fracT at hc
      split at hc
      · simp at hc
      · rcases List.mem_cons.1 hc with rfl | hc
        · decide
        · exact hd c (h.frac c hc)
  have h2 : (expT x).takeWhile noE = [] := by
    match x, h with
    | none, _ => rfl
    | some (m, s, E), h =>
      obtain ⟨hm, _⟩ := h.mark m s E rfl
      show (m :: (s ++ E)).takeWhile noE = []
      rcases hm with rfl | rfl <;> rfl
  rw [← List.append_assoc, List.takeWhile_append_of_pos h1, h2, List.append_nil]
def valD (d : List UInt8) : Nat := d.foldl (fun a c => a * 10 + (c.toNat - 48)) 0
end Go.Proofs.YtlfbnfphocpgeaaGreatDoor.Num
namespace Go.Proofs.YtlfbnfphocpgeaaGreatDoor.Utf
/-- The byte at a place, as a number (0 behind the end). -/
def nb (l : List UInt8) (i : Nat) : Nat := (l.getD i 0).toNat
theorem nb_lt (l : List UInt8) (i : Nat) : nb l i < 256 := (l.getD i 0).toNat_lt
theorem of_nb (l : List UInt8) (i : Nat) {x : Nat} (h : x = nb l i) : UInt8.ofNat x = l.getD i 0 := by rw [h, nb]; exact UInt8.ofNat_toNat
/-- The scalar that l begins with, and its size; size 0: there is none. -/
def one (l : List UInt8) : Nat × Nat :=
  if 1 ≤ l.length ∧ nb l 0 < 128 then (nb l 0, 1)
  else if 2 ≤ l.length ∧ 194 ≤ nb l 0 ∧ nb l 0 ≤ 223 ∧ 128 ≤ nb l 1 ∧ nb l 1 ≤ 191 then ((nb l 0 - 192) * 64 + (nb l 1 - 128), 2)
  else if 3 ≤ l.length ∧ 224 ≤ nb l 0 ∧ nb l 0 ≤ 239 ∧ 128 ≤ nb l 1 ∧ nb l 1 ≤ 191 ∧ 128 ≤ nb l 2 ∧ nb l 2 ≤ 191 ∧ (nb l 0 = 224 → 160 ≤ nb l 1) ∧ (nb l 0 = 237 → nb l 1 < 160) then
    ((nb l 0 - 224) * 4096 + (nb l 1 - 128) * 64 + (nb l 2 - 128), 3)
  else if 4 ≤ l.length ∧ 240 ≤ nb l 0 ∧ nb l 0 ≤ 244 ∧ 128 ≤ nb l 1 ∧ nb l 1 ≤ 191 ∧ 128 ≤ nb l 2 ∧ nb l 2 ≤ 191 ∧ 128 ≤ nb l 3 ∧ nb l 3 ≤ 191 ∧ (nb l 0 = 240 → 144 ≤ nb l 1) ∧ (nb l 0 = 244 → nb l 1 < 144) then
    ((nb l 0 - 240) * 262144 + (nb l 1 - 128) * 4096 + (nb l 2 - 128) * 64 + (nb l 3 - 128), 4)
  else (0, 0)
/-- How a scalar is written, in numbers. -/
def encN (c : Nat) : List Nat :=
  if c < 128 then [c]
  else if c < 2048 then [192 + c / 64, 128 + c % 64]
  else if c < 65536 then [224 + c / 4096, 128 + c / 64 % 64, 128 + c % 64]
  else [240 + c / 262144, 128 + c / 4096 % 64, 128 + c / 64 % 64, 128 + c % 64]
def enc (c : Nat) : List UInt8 := (encN c).map UInt8.ofNat
def Scalar (c : Nat) : Prop := c ≤ 1114111 ∧ (c < 55296 ∨ 57343 < c)
instance (c : Nat) : Decidable (Scalar c) := by unfold Scalar; exact inferInstance
theorem take1 {l : List UInt8} (h : 1 ≤ l.length) : l.take 1 = [l.getD 0 0] := by
  match l, h with
  | a :: _, _ => simp
theorem take2 {l : List UInt8} (h : 2 ≤ l.length) : l.take 2 = [l.getD 0 0, l.getD 1 0] := by
  match l, h with
  | a :: b :: _, _ => simp
theorem take3 {l : List UInt8} (h : 3 ≤ l.length) : l.take 3 = [l.getD 0 0, l.getD 1 0, l.getD 2 0] := by
  match l, h with
  | a :: b :: c :: _, _ => simp
theorem take4 {l : List UInt8} (h : 4 ≤ l.length) : l.take 4 = [l.getD 0 0, l.getD 1 0, l.getD 2 0, l.getD 3 0] := by
  match l, h with
  | a :: b :: c :: d :: _, _ => simp
/-- The four kinds of scalars, each with its bytes. -/
theorem enc_kinds {c : Nat} (hc : Scalar c) :
    (c < 128 ∧ enc c = [.ofNat c]) ∨ (128 ≤ c ∧ c < 2048 ∧ enc c = [.ofNat (192 + c / 64), .ofNat (128 + c % 64)]) ∨
    (2048 ≤ c ∧ c < 65536 ∧ enc c = [.ofNat (224 + c / 4096), .ofNat (128 + c / 64 % 64), .ofNat (128 + c % 64)]) ∨
    (65536 ≤ c ∧ c ≤ 1114111 ∧ enc c = [.ofNat (240 + c / 262144), .ofNat (128 + c / 4096 % 64), .ofNat (128 + c / 64 % 64), .ofNat (128 + c % 64)]) := by
  unfold Scalar at hc
  unfold enc encN
  by_cases h1 : c < 128
  · simp [h1]
  by_cases h2 : c < 2048
  · simp [h1, h2]; omega
  by_cases h3 : c < 65536
  · simp [h1, h2, h3]; omega
  · simp [h1, h2, h3]; omega
theorem enc_len {c : Nat} : 1 ≤ (enc c).length ∧ (enc c).length ≤ 4 := by
  unfold enc encN
  split
  · simp
  split
  · simp
  split <;> simp
/-- What is told of a list is told rightly: the scalar's bytes stand there. -/
theorem one_bytes {l : List UInt8} (h : (one l).2 ≠ 0) : Scalar (one l).1 ∧ l.take (one l).2 = enc (one l).1 ∧ (one l).2 ≤ l.length := by
  have b0 := nb_lt l 0
  have b1 := nb_lt l 1
  have b2 := nb_lt l 2
  have b3 := nb_lt l 3
  by_cases c1 : 1 ≤ l.length ∧ nb l 0 < 128
  · have e : one l = (nb l 0, 1) := by unfold one; rw [if_pos c1]
    rw [e]
    refine ⟨by unfold Scalar; dsimp only; omega, ?_, c1.1⟩
    have : encN (nb l 0) = [nb l 0] := by unfold encN; rw [if_pos c1.2]
    rw [take1 c1.1, enc, this]
    simp only [List.map_cons, List.map_nil, of_nb l 0 rfl]
  by_cases c2 : 2 ≤ l.length ∧ 194 ≤ nb l 0 ∧ nb l 0 ≤ 223 ∧ 128 ≤ nb l 1 ∧ nb l 1 ≤ 191
  · have e : one l = ((nb l 0 - 192) * 64 + (nb l 1 - 128), 2) := by unfold one; rw [if_neg c1, if_pos c2]
    rw [e]
    refine ⟨by unfold Scalar; dsimp only; omega, ?_, c2.1⟩
    have h1 : ¬ (nb l 0 - 192) * 64 + (nb l 1 - 128) < 128 := by omega
    have h2 : (nb l 0 - 192) * 64 + (nb l 1 - 128) < 2048 := by omega
    dsimp only
    rw [take2 c2.1, enc, encN, if_neg h1, if_pos h2]
    simp only [List.map_cons, List.map_nil]
    rw [of_nb l 0 (by omega), of_nb l 1 (by omega)]
  by_cases c3 : 3 ≤ l.length ∧ 224 ≤ nb l 0 ∧ nb l 0 ≤ 239 ∧ 128 ≤ nb l 1 ∧ nb l 1 ≤ 191 ∧ 128 ≤ nb l 2 ∧ nb l 2 ≤ 191 ∧ (nb l 0 = 224 → 160 ≤ nb l 1) ∧ (nb l 0 = 237 → nb l 1 < 160)
  · have e : one l = ((nb l 0 - 224) * 4096 + (nb l 1 - 128) * 64 + (nb l 2 - 128), 3) := by unfold one; rw [if_neg c1, if_neg c2, if_pos c3]
    rw [e]
    refine ⟨by unfold Scalar; dsimp only; omega, ?_, c3.1⟩
    have h1 : ¬ (nb l 0 - 224) * 4096 + (nb l 1 - 128) * 64 + (nb l 2 - 128) < 128 := by omega
    have h2 : ¬ (nb l 0 - 224) * 4096 + (nb l 1 - 128) * 64 + (nb l 2 - 128) < 2048 := by omega
    have h3 : (nb l 0 - 224) * 4096 + (nb l 1 - 128) * 64 + (nb l 2 - 128) < 65536 := by omega
    dsimp only
    rw [take3 c3.1, enc, encN, if_neg h1, if_neg h2, if_pos h3]
    simp only [List.map_cons, List.map_nil]
    rw [of_nb l 0 (by omega), of_nb l 1 (by omega), of_nb l 2 (by omega)]
  by_cases c4 : 4 ≤ l.length ∧ 240 ≤ nb l 0 ∧ nb l 0 ≤ 244 ∧ 128 ≤ nb l 1 ∧ nb l 1 ≤ 191 ∧ 128 ≤ nb l 2 ∧ nb l 2 ≤ 191 ∧ 128 ≤ nb l 3 ∧ nb l 3 ≤ 191 ∧ (nb l 0 = 240 → 144 ≤ nb l 1) ∧ (nb l 0 = 244 → nb l 1 < 144)
  · have e : one l = ((nb l 0 - 240) * 262144 + (nb l 1 - 128) * 4096 + (nb l 2 - 128) * 64 + (nb l 3 - 128), 4) := by unfold one; rw [if_neg c1, if_neg c2, if_neg c3, if_pos c4]
    rw [e]
    refine ⟨by unfold Scalar; dsimp only; omega, ?_, c4.1⟩
    have h1 : ¬ (nb l 0 - 240) * 262144 + (nb l 1 - 128) * 4096 + (nb l 2 - 128) * 64 + (nb l 3 - 128) < 128 := by omega
    have h2 : ¬ (nb l 0 - 240) * 262144 + (nb l 1 - 128) * 4096 + (nb l 2 - 128) * 64 + (nb l 3 - 128) < 2048 := by omega
    have h3 : ¬ (nb l 0 - 240) * 262144 + (nb l 1 - 128) * 4096 + (nb l 2 - 128) * 64 + (nb l 3 - 128) < 65536 := by omega
    dsimp only
    rw [take4 c4.1, enc, encN, if_neg h1, if_neg h2, if_neg h3]
    simp only [List.map_cons, List.map_nil]
    rw [of_nb l 0 (by omega), of_nb l 1 (by omega), of_nb l 2 (by omega), of_nb l 3 (by omega)]
  · exfalso
    apply h
    unfold one
    rw [if_neg c1, if_neg c2, if_neg c3, if_neg c4]
theorem nbc {x : Nat} (h : x < 256) : (UInt8.ofNat x).toNat = x := by
  simp [UInt8.toNat_ofNat']; omega
/-- A scalar's bytes are told, whatever stands behind them. -/
theorem one_enc {c : Nat} (hc : Scalar c) (r : List UInt8) : one (enc c ++ r) = (c, (enc c).length) := by
  have hc' := hc
  unfold Scalar at hc'
  rcases enc_kinds hc with ⟨h1, e⟩ | ⟨h1, h2, e⟩ | ⟨h1, h2, e⟩ | ⟨h1, h2, e⟩
  · rw [e]
    have n0 : nb ([UInt8.ofNat c] ++ r) 0 = c := by simp only [nb, List.cons_append, List.getD_cons_zero]; exact nbc (by omega)
    unfold one
    rw [n0, if_pos ⟨by simp, h1⟩]
    rfl
  · rw [e]
    generalize hl : [UInt8.ofNat (192 + c / 64), UInt8.ofNat (128 + c % 64)] ++ r = l
    have n0 : nb l 0 = 192 + c / 64 := by rw [← hl]; simp only [nb, List.cons_append, List.getD_cons_zero]; exact nbc (by omega)
    have n1 : nb l 1 = 128 + c % 64 := by rw [← hl]; simp only [nb, List.cons_append, List.getD_cons_zero, List.getD_cons_succ]; exact nbc (by omega)
    have len : 2 ≤ l.length := by rw [← hl]; simp
    unfold one
    rw [n0, n1, if_neg (by omega), if_pos ⟨len, by omega, by omega, by omega, by omega⟩]
    exact Prod.ext (by dsimp only; omega) rfl
  · rw [e]
    generalize hl : [UInt8.ofNat (224 + c / 4096), UInt8.ofNat (128 + c / 64 % 64), UInt8.ofNat (128 + c % 64)] ++ r = l
    have n0 : nb l 0 = 224 + c / 4096 := by rw [← hl]; simp only [nb, List.cons_append, List.getD_cons_zero]; exact nbc (by omega)
    have n1 : nb l 1 = 128 + c / 64 % 64 := by rw [← hl]; simp only [nb, List.cons_append, List.getD_cons_zero, List.getD_cons_succ]; exact nbc (by omega)
    have n2 : nb l 2 = 128 + c % 64 := by rw [← hl]; simp only [nb, List.cons_append, List.getD_cons_zero, List.getD_cons_succ]; exact nbc (by omega)
    have len : 3 ≤ l.length := by rw [← hl]; simp
    unfold one
    rw [n0, n1, n2, if_neg (by omega), if_neg (by omega), if_pos ⟨len, by omega, by omega, by omega, by omega, by omega, by omega, by omega, by omega⟩]
    exact Prod.ext (by dsimp only; omega) rfl
  · rw [e]
    generalize hl : [UInt8.ofNat (240 + c / 262144), UInt8.ofNat (128 + c / 4096 % 64), UInt8.ofNat (128 + c / 64 % 64), UInt8.ofNat (128 + c % 64)] ++ r = l
    have n0 : nb l 0 = 240 + c / 262144 := by rw [← hl]; simp only [nb, List.cons_append, List.getD_cons_zero]; exact nbc (by omega)
    have n1 : nb l 1 = 128 + c / 4096 % 64 := by rw [← hl]; simp only [nb, List.cons_append, List.getD_cons_zero, List.getD_cons_succ]; exact nbc (by omega)
    have n2 : nb l 2 = 128 + c / 64 % 64 := by rw [← hl]; simp only [nb, List.cons_append, List.getD_cons_zero, List.getD_cons_succ]; exact nbc (by omega)
    have n3 : nb l 3 = 128 + c % 64 := by rw [← hl]; simp only [nb, List.cons_append, List.getD_cons_zero, List.getD_cons_succ]; exact nbc (by omega)
    have len : 4 ≤ l.length := by rw [← hl]; simp
    unfold one
    rw [n0, n1, n2, n3, if_neg (by omega), if_neg (by omega), if_neg (by omega), if_pos ⟨len, by omega, by omega, by omega, by omega, by omega, by omega, by omega, by omega, by omega, by omega⟩]
    exact Prod.ext (by dsimp only; omega) rfl
theorem one_of_take {c n : Nat} (hc : Scalar c) {l : List UInt8} (h : l.take n = enc c) (hn : n ≤ l.length) : one l = (c, n) := by
  have e : l = enc c ++ l.drop n := by rw [← h]; exact (List.take_append_drop n l).symm
  have hl : (enc c).length = n := by rw [← h, List.length_take]; omega
  rw [e, one_enc hc, hl]

/-! ### The scalars of a list, and where it goes wrong -/
/-- The scalars of l, each with its place, and the place where l goes wrong; l stands at place p. -/
def scan (p : Nat) (l : List UInt8) : List (Nat × Nat) × Option Nat :=
  if l = [] then ([], none)
  else if (one l).2 = 0 then ([], some p)
  else ((p, (one l).1) :: (scan (p + (one l).2) (l.drop (one l).2)).1, (scan (p + (one l).2) (l.drop (one l).2)).2)
termination_by l.length
decreasing_by
  all_goals
    have := List.length_pos_iff.2 (show l ≠ [] by assumption)
    simp only [List.length_drop]
    omega
def all (l : List UInt8) : List (Nat × Nat) := (scan 0 l).1
def bad (l : List UInt8) : Option Nat := (scan 0 l).2
/-- Bad's answer as a Go number. -/
def badI (l : List UInt8) : Int := match bad l with
  | none => -1
  | some p => p
theorem scan_nil (p : Nat) : scan p [] = ([], none) := by rw [scan]; simp
theorem scan_bad {p : Nat} {l : List UInt8} (h : l ≠ []) (h0 : (one l).2 = 0) : scan p l = ([], some p) := by rw [scan, if_neg h, if_pos h0]
theorem scan_step {p : Nat} {l : List UInt8} (h : l ≠ []) (h0 : (one l).2 ≠ 0) :
    scan p l = ((p, (one l).1) :: (scan (p + (one l).2) (l.drop (one l).2)).1, (scan (p + (one l).2) (l.drop (one l).2)).2) := by
  conv => lhs; rw [scan, if_neg h, if_neg h0]
theorem scan_enc {p c : Nat} (hc : Scalar c) (r : List UInt8) :
    scan p (enc c ++ r) = ((p, c) :: (scan (p + (enc c).length) r).1, (scan (p + (enc c).length) r).2) := by
  have h1 := enc_len (c := c)
  have hne : enc c ++ r ≠ [] := fun e => by have := congrArg List.length e; simp only [List.length_append, List.length_nil] at this; omega
  rw [scan_step hne (by rw [one_enc hc]; dsimp only; omega), one_enc hc]
  simp
/-- An induction along a list that is scanned. -/
theorem scan_cases (l : List UInt8) : l = [] ∨ (l ≠ [] ∧ (one l).2 = 0) ∨ ∃ c r, Scalar c ∧ l = enc c ++ r ∧ (one l) = (c, (enc c).length) ∧ r.length < l.length := by
  by_cases h : l = []
  · exact .inl h
  by_cases h0 : (one l).2 = 0
  · exact .inr (.inl ⟨h, h0⟩)
  · obtain ⟨h1, h2, h3⟩ := one_bytes h0
    have e : l = enc (one l).1 ++ l.drop (one l).2 := by rw [← h2]; exact (List.take_append_drop _ l).symm
    refine .inr (.inr ⟨(one l).1, l.drop (one l).2, h1, e, ?_, ?_⟩)
    · have hl : (enc (one l).1).length = (one l).2 := by rw [← h2, List.length_take]; omega
      rw [hl]
    · have := List.length_pos_iff.2 h
      simp only [List.length_drop]; omega
theorem scan_ind {M : List UInt8 → Prop} (h0 : M []) (hb : ∀ l, l ≠ [] → (one l).2 = 0 → M l) (hs : ∀ c r, Scalar c → M r → M (enc c ++ r)) : ∀ l, M l := by
  suffices ∀ n l, l.length ≤ n → M l from fun l => this l.length l (Nat.le_refl _)
  intro n
  induction n with
  | zero =>
    intro l hl
    obtain rfl : l = [] := List.length_eq_zero_iff.1 (by omega)
    exact h0
  | succ n ih =>
    intro l hl
    rcases scan_cases l with rfl | ⟨h1, h2⟩ | ⟨c, r, hc, rfl, _, hr⟩
    · exact h0
    · exact hb l h1 h2
    · exact hs c r hc (ih r (by omega))
/-- Behind a text it goes on as by itself, so many bytes further. -/
theorem scan_append (a b : List UInt8) : ∀ p, (scan p a).2 = none → scan p (a ++ b) = ((scan p a).1 ++ (scan (p + a.length) b).1, (scan (p + a.length) b).2) := by
  refine scan_ind (M := fun a => ∀ p, (scan p a).2 = none → scan p (a ++ b) = ((scan p a).1 ++ (scan (p + a.length) b).1, (scan (p + a.length) b).2)) ?_ ?_ ?_ a
  · intro p _; simp [scan_nil]
  · intro l h1 h2 p h; simp [scan_bad h1 h2] at h
  · intro c r hc ih p h
    rw [scan_enc hc] at h ⊢
    rw [List.append_assoc, scan_enc hc, ih _ h, List.length_append, ← Nat.add_assoc]
    simp
theorem scan_len (l : List UInt8) : ∀ p, (scan p l).1.length ≤ l.length := by
  refine scan_ind (M := fun l => ∀ p, (scan p l).1.length ≤ l.length) ?_ ?_ ?_ l
  · intro p; simp [scan_nil]
  · intro l h1 h2 p; simp [scan_bad h1 h2]
  · intro c r hc ih p
    rw [scan_enc hc]
    have h1 := enc_len (c := c)
    have := ih (p + (enc c).length)
    simp only [List.length_cons, List.length_append]; omega
theorem badI_neg (l : List UInt8) : badI l < 0 ↔ bad l = none := by
  unfold badI
  cases bad l with
  | none => simp
  | some p => simp

/-! ### The order -/
def lessN : List Nat → List Nat → Bool
  | _, [] => false
  | [], _ :: _ => true
  | a :: x, b :: y => a < b || (a == b && lessN x y)
theorem bytesLess_lessN : ∀ a b : List UInt8, Op.bytesLess a b = lessN (a.map UInt8.toNat) (b.map UInt8.toNat)
  | [], [] => by simp [Op.bytesLess, lessN]
  | _ :: _, [] => by simp [Op.bytesLess, lessN]
  | [], _ :: _ => by simp [Op.bytesLess, lessN]
  | a :: x, b :: y => by
    simp only [Op.bytesLess, List.map_cons, lessN, bytesLess_lessN x y]
    congr 1
    congr 1
    rw [Bool.eq_iff_iff]
    simp [UInt8.toNat_inj]
theorem lessN_append (u : List Nat) : ∀ x y, lessN (u ++ x) (u ++ y) = lessN x y := by
  induction u with
  | nil => intro x y; rfl
  | cons a u ih => intro x y; simp [lessN, ih]
theorem enc_toNat {c : Nat} (hc : Scalar c) : (enc c).map UInt8.toNat = encN c := by
  have hc' := hc
  unfold Scalar at hc'
  unfold enc encN
  split
  · simp; omega
  split
  · simp; omega
  split
  · simp; omega
  · simp; omega
theorem encN_kinds {c : Nat} (hc : Scalar c) :
    (c < 128 ∧ encN c = [c]) ∨ (128 ≤ c ∧ c < 2048 ∧ encN c = [192 + c / 64, 128 + c % 64]) ∨
    (2048 ≤ c ∧ c < 65536 ∧ encN c = [224 + c / 4096, 128 + c / 64 % 64, 128 + c % 64]) ∨
    (65536 ≤ c ∧ c ≤ 1114111 ∧ encN c = [240 + c / 262144, 128 + c / 4096 % 64, 128 + c / 64 % 64, 128 + c % 64]) := by
  unfold Scalar at hc
  unfold encN
  by_cases h1 : c < 128
  · simp [h1]
  by_cases h2 : c < 2048
  · simp [h1, h2]; omega
  by_cases h3 : c < 65536
  · simp [h1, h2, h3]; omega
  · simp [h1, h2, h3]; omega
/-- Two different scalars' bytes are in the scalars' order, whatever stands behind them. -/
theorem lessN_enc {c d : Nat} (hc : Scalar c) (hd : Scalar d) (hne : c ≠ d) (x y : List Nat) : lessN (encN c ++ x) (encN d ++ y) = decide (c < d) := by
  rcases encN_kinds hc with ⟨h1, e⟩ | ⟨h1, h2, e⟩ | ⟨h1, h2, e⟩ | ⟨h1, h2, e⟩ <;>
  rcases encN_kinds hd with ⟨k1, f⟩ | ⟨k1, k2, f⟩ | ⟨k1, k2, f⟩ | ⟨k1, k2, f⟩ <;>
  (rw [e, f, Bool.eq_iff_iff]; simp only [List.cons_append, List.nil_append, lessN, Bool.or_eq_true, Bool.and_eq_true, beq_iff_eq, decide_eq_true_eq]; omega)
/-- Two texts are in the order of their scalars. -/
theorem order (a : List UInt8) : ∀ b p q, (scan p a).2 = none → (scan q b).2 = none →
    Op.bytesLess a b = lessN ((scan p a).1.map (·.2)) ((scan q b).1.map (·.2)) ∧ (a = b ↔ (scan p a).1.map (·.2) = (scan q b).1.map (·.2)) := by
  refine scan_ind (M := fun a => ∀ b p q, (scan p a).2 = none → (scan q b).2 = none →
    Op.bytesLess a b = lessN ((scan p a).1.map (·.2)) ((scan q b).1.map (·.2)) ∧ (a = b ↔ (scan p a).1.map (·.2) = (scan q b).1.map (·.2))) ?_ ?_ ?_ a
  · intro b p q _ hb
    rw [scan_nil]
    rcases scan_cases b with rfl | ⟨h1, h2⟩ | ⟨d, s, hd, rfl, _, _⟩
    · simp [scan_nil, Op.bytesLess, lessN]
    · rw [scan_bad h1 h2] at hb; cases hb
    · rw [scan_enc hd]
      have h1 := enc_len (c := d)
      generalize hh : enc d = e at h1
      cases e with
      | nil => simp at h1
      | cons z e => simp [Op.bytesLess, lessN]
  · intro l h1 h2 b p q h
    rw [scan_bad h1 h2] at h; cases h
  · intro c r hc ih b p q ha hb
    rw [scan_enc hc] at ha ⊢
    rcases scan_cases b with rfl | ⟨h1, h2⟩ | ⟨d, s, hd, rfl, _, _⟩
    · rw [scan_nil]
      have h1 := enc_len (c := c)
      generalize hh : enc c = e at h1
      cases e with
      | nil => simp at h1
      | cons z e => simp [Op.bytesLess, lessN]
    · rw [scan_bad h1 h2] at hb; cases hb
    · rw [scan_enc hd] at hb ⊢
      by_cases hcd : c = d
      · subst hcd
        obtain ⟨i1, i2⟩ := ih s (p + (enc c).length) (q + (enc c).length) ha hb
        refine ⟨?_, ?_⟩
        · rw [bytesLess_lessN] at i1 ⊢
          rw [List.map_append, List.map_append, lessN_append, i1]
          simp [lessN]
        · simp [i2]
      · refine ⟨?_, ?_⟩
        · rw [bytesLess_lessN, List.map_append, List.map_append, enc_toNat hc, enc_toNat hd, lessN_enc hc hd hcd]
          simp [lessN, hcd]
        · simp only [List.map_cons, List.cons.injEq, hcd, false_and, iff_false]
          intro e
          have o1 := one_enc hc r
          rw [e, one_enc hd] at o1
          exact hcd (Prod.mk.inj o1).1.symm
end Go.Proofs.YtlfbnfphocpgeaaGreatDoor.Utf
namespace Go.Proofs.YtlfbnfphocpgeaaGreatDoor.Utf
open Go.RowKit
theorem at_nb (s : ByteArray) (i : Nat) (h : i < s.size) : (s[i]'h).toNat = nb s.data.toList i := by
  have h' : i < s.data.toList.length := by simpa using h
  simp only [nb, List.getD_eq_getElem?_getD, List.getElem?_eq_getElem h', Option.getD_some]
  rfl
theorem extract_rest (s : ByteArray) (k : Nat) : (s.extract k s.size).data.toList = s.data.toList.drop k := by
  have h : s.data.toList.length = s.size := by simp
  rw [ByteArray.data_extract, Array.toList_extract, List.extract_eq_take_drop]
  exact List.take_of_length_le (by rw [List.length_drop, h]; omega)
/-- What stands behind place k is told on from there. -/
theorem scan_at {l : List UInt8} {k : Nat} (hk : k < l.length) :
    ((one (l.drop k)).2 = 0 ∧ scan k (l.drop k) = ([], some k)) ∨
    ((one (l.drop k)).2 ≠ 0 ∧ 1 ≤ (one (l.drop k)).2 ∧ k + (one (l.drop k)).2 ≤ l.length ∧
      scan k (l.drop k) = ((k, (one (l.drop k)).1) :: (scan (k + (one (l.drop k)).2) (l.drop (k + (one (l.drop k)).2))).1, (scan (k + (one (l.drop k)).2) (l.drop (k + (one (l.drop k)).2))).2)) := by
  have hne : l.drop k ≠ [] := fun e => by have := congrArg List.length e; simp only [List.length_drop, List.length_nil] at this; omega
  by_cases h0 : (one (l.drop k)).2 = 0
  · exact .inl ⟨h0, scan_bad hne h0⟩
  · obtain ⟨_, _, h3⟩ := one_bytes h0
    rw [List.length_drop] at h3
    refine .inr ⟨h0, by omega, by omega, ?_⟩
    rw [scan_step hne h0, List.drop_drop]
/-- What Put writes. -/
def putL (c : Int) : List UInt8 := if 0 ≤ c ∧ c ≤ 1114111 ∧ (c < 55296 ∨ 57343 < c) then enc c.toNat else []
end Go.Proofs.YtlfbnfphocpgeaaGreatDoor.Utf
namespace Go.Proofs.YtlfbnfphocpgeaaGreatDoor.Tre
open Num (Dec zero)
/-- A value: its kind, whether it holds, its number, its text, its keys, its kids. -/
inductive Val where
  | mk (kind : Int) (is : Bool) (num : Dec) (str : List UInt8) (keys : List (List UInt8)) (kids : List Val)
def Val.kind : Val → Int | ⟨k, _, _, _, _, _⟩ => k
def Val.is : Val → Bool | ⟨_, i, _, _, _, _⟩ => i
def Val.num : Val → Dec | ⟨_, _, n, _, _, _⟩ => n
def Val.str : Val → List UInt8 | ⟨_, _, _, s, _, _⟩ => s
def Val.keys : Val → List (List UInt8) | ⟨_, _, _, _, ks, _⟩ => ks
def Val.kids : Val → List Val | ⟨_, _, _, _, _, vs⟩ => vs
def none' : Val := ⟨0, false, zero, [], [], []⟩
mutual
def deep : Val → Nat
  | ⟨k, _, _, _, _, vs⟩ => (if k = 5 ∨ k = 6 then deeps vs else 0) + 1
def deeps : List Val → Nat
  | [] => 0
  | v :: r => max (deep v) (deeps r)
end
/-- Right, but for how deep it is, and its kids. -/
def Own (v : Val) : Prop :=
  1 ≤ v.kind ∧ v.kind ≤ 6 ∧ (v.kind ≠ 2 → v.is = false) ∧ (v.kind ≠ 3 → v.num = zero) ∧ (v.kind ≠ 4 → v.str = []) ∧ (v.kind < 5 → v.kids = []) ∧ (v.kind ≠ 6 → v.keys = []) ∧
    Num.Right v.num ∧ Utf.bad v.str = none ∧ (v.kind = 6 → v.keys.length = v.kids.length) ∧ (∀ k ∈ v.keys, Utf.bad k = none) ∧ v.keys.Nodup
mutual
def Whole : Val → Prop
  | ⟨k, i, n, s, ks, vs⟩ => Own ⟨k, i, n, s, ks, vs⟩ ∧ Wholes vs
def Wholes : List Val → Prop
  | [] => True
  | v :: r => Whole v ∧ Wholes r
end
def Right (v : Val) : Prop := deep v ≤ 64 ∧ Whole v
theorem deeps_le {vs : List Val} {d : Nat} : deeps vs ≤ d ↔ ∀ v ∈ vs, deep v ≤ d := by
  induction vs with
  | nil => simp [deeps]
  | cons v r ih =>
    rw [deeps, Nat.max_le, ih]
    simp
theorem wholes_iff {vs : List Val} : Wholes vs ↔ ∀ v ∈ vs, Whole v := by
  induction vs with
  | nil => simp [Wholes]
  | cons v r ih =>
    rw [Wholes, ih]
    simp
theorem whole_iff {v : Val} : Whole v ↔ Own v ∧ ∀ x ∈ v.kids, Whole x := by
  obtain ⟨k, i, n, s, ks, vs⟩ := v
  rw [Whole, wholes_iff]
  rfl
/-- The first kid with that key. -/
def get (v : Val) (key : List UInt8) : Option Val := if v.kind = 6 then (match v.keys.findIdx? (· = key) with | some i => v.kids[i]? | none => none) else none
end Go.Proofs.YtlfbnfphocpgeaaGreatDoor.Tre
namespace Go.Proofs.YtlfbnfphocpgeaaGreatDoor.Quo
open Utf
/-- A hexadecimal digit's value. -/
def hexV (c : UInt8) : Option Nat :=
  if 48 ≤ c.toNat ∧ c.toNat ≤ 57 then some (c.toNat - 48) else if 97 ≤ c.toNat ∧ c.toNat ≤ 102 then some (c.toNat - 97 + 10) else if 65 ≤ c.toNat ∧ c.toNat ≤ 70 then some (c.toNat - 65 + 10) else none
/-- So many digits that bytes begin with: the number, the error. -/
def unitF : Nat → Nat → List UInt8 → Nat × Nat
  | 0, n, _ => (n, 0)
  | _ + 1, _, [] => (0, 2)
  | k + 1, n, c :: r => match hexV c with
    | none => (0, 3)
    | some d => unitF k (n * 16 + d) r
def unit (l : List UInt8) : Nat × Nat := unitF 4 0 l
/-- What a part stands for, how many bytes it has, the error. -/
structure Part where
  s : List UInt8
  size : Nat
  e : Nat
  deriving DecidableEq
def err (e : Nat) : Part := ⟨[], 0, e⟩
/-- Two bytes that must follow: 0, or the error. -/
def follow (l : List UInt8) : Nat :=
  match l with
  | [] => 2
  | a :: r => if a ≠ 92 then 3 else match r with
    | [] => 2
    | b :: _ => if b ≠ 117 then 3 else 0
/-- The part behind a backslash and u. -/
def coded (l : List UInt8) : Part :=
  if (unit l).2 ≠ 0 then err (unit l).2
  else if 56320 ≤ (unit l).1 ∧ (unit l).1 ≤ 57343 then err 3
  else if (unit l).1 < 55296 ∨ 57343 < (unit l).1 then ⟨enc (unit l).1, 6, 0⟩
  else if follow (l.drop 4) ≠ 0 then err (follow (l.drop 4))
  else if (unit (l.drop 6)).2 ≠ 0 then err (unit (l.drop 6)).2
  else if (unit (l.drop 6)).1 < 56320 ∨ 57343 < (unit (l.drop 6)).1 then err 3
  else ⟨enc (65536 + ((unit l).1 - 55296) * 1024 + ((unit (l.drop 6)).1 - 56320)), 12, 0⟩
/-- What the signs behind a backslash stand for. -/
def sign (c : UInt8) : Option UInt8 :=
  if c = 34 ∨ c = 92 ∨ c = 47 then some c else if c = 98 then some 8 else if c = 102 then some 12 else if c = 110 then some 10 else if c = 114 then some 13 else if c = 116 then some 9 else none
def part (l : List UInt8) : Part :=
  match l with
  | [] => err 2
  | c :: r =>
    if c.toNat < 32 then err 3
    else if c ≠ 92 then (if (one (c :: r)).2 = 0 then err 7 else ⟨(c :: r).take (one (c :: r)).2, (one (c :: r)).2, 0⟩)
    else match r with
      | [] => err 2
      | d :: r' => match sign d with
        | some x => ⟨[x], 2, 0⟩
        | none => if d = 117 then coded r' else err 3
theorem unitF_len : ∀ (k n : Nat) (l : List UInt8), (unitF k n l).2 = 0 → k ≤ l.length
  | 0, _, _, _ => Nat.zero_le _
  | k + 1, n, [], h => by simp [unitF] at h
  | k + 1, n, c :: r, h => by
    unfold unitF at h
    split at h
    · simp at h
    · have := unitF_len k _ r h
      simp
      omega
theorem unitF_lt : ∀ (k n : Nat) (l : List UInt8), (unitF k n l).1 ≤ n * 16 ^ k + (16 ^ k - 1)
  | 0, n, _ => by simp [unitF]
  | k + 1, n, [] => by simp [unitF]
  | k + 1, n, c :: r => by
    unfold unitF
    split
    · simp
    · rename_i d hd
      have h := unitF_lt k (n * 16 + d) r
      have hd16 : d ≤ 15 := by
        unfold hexV at hd
        split at hd
        · injection hd with hd; omega
        · split at hd
          · injection hd with hd; omega
          · split at hd
            · injection hd with hd; omega
            · cases hd
      have hp : 0 < 16 ^ k := Nat.pow_pos (by omega)
      rw [Nat.pow_succ]
      have e1 : (n * 16 + d) * 16 ^ k ≤ (n * 16 + 15) * 16 ^ k := Nat.mul_le_mul_right _ (by omega)
      have e2 : (n * 16 + 15) * 16 ^ k = n * (16 ^ k * 16) + 15 * 16 ^ k := by rw [Nat.add_mul, Nat.mul_assoc, Nat.mul_comm 16 (16 ^ k)]
      omega
theorem unit_lt (l : List UInt8) : (unit l).1 < 65536 := by
  have := unitF_lt 4 0 l
  unfold unit
  omega
theorem unit_len {l : List UInt8} (h : (unit l).2 = 0) : 4 ≤ l.length := unitF_len 4 0 l h
/-- A part that is told is a scalar's, has one byte at least, and no more than there are. -/
theorem coded_ok {l : List UInt8} (h : (coded l).e = 0) : ∃ c, Scalar c ∧ (coded l).s = enc c ∧ 6 ≤ (coded l).size ∧ (coded l).size ≤ l.length + 2 := by
  have b1 := unit_lt l
  have b2 := unit_lt (l.drop 6)
  unfold coded at h ⊢
  by_cases c1 : (unit l).2 ≠ 0
  · rw [if_pos c1] at h; exact absurd h c1
  rw [if_neg c1] at h ⊢
  have l1 := unit_len (l := l) (by omega)
  by_cases c2 : 56320 ≤ (unit l).1 ∧ (unit l).1 ≤ 57343
  · rw [if_pos c2] at h; cases h
  rw [if_neg c2] at h ⊢
  by_cases c3 : (unit l).1 < 55296 ∨ 57343 < (unit l).1
  · rw [if_pos c3]
    exact ⟨(unit l).1, by unfold Scalar; omega, rfl, Nat.le_refl _, by dsimp only; omega⟩
  rw [if_neg c3] at h ⊢
  by_cases c4 : follow (l.drop 4) ≠ 0
  · rw [if_pos c4] at h; exact absurd h c4
  rw [if_neg c4] at h ⊢
  by_cases c5 : (unit (l.drop 6)).2 ≠ 0
  · rw [if_pos c5] at h; exact absurd h c5
  rw [if_neg c5] at h ⊢
  have l2 := unit_len (l := l.drop 6) (by omega)
  rw [List.length_drop] at l2
  by_cases c6 : (unit (l.drop 6)).1 < 56320 ∨ 57343 < (unit (l.drop 6)).1
  · rw [if_pos c6] at h; cases h
  rw [if_neg c6]
  exact ⟨65536 + ((unit l).1 - 55296) * 1024 + ((unit (l.drop 6)).1 - 56320), by unfold Scalar; omega, by dsimp only, by dsimp only; omega, by dsimp only; omega⟩
theorem sign_lt {c x : UInt8} (h : sign c = some x) : x.toNat < 128 := by
  unfold sign at h
  split at h
  · rename_i hc
    injection h with h
    subst h
    rcases hc with rfl | rfl | rfl <;> decide
  · repeat (split at h; (injection h with h; subst h; decide))
    cases h
theorem enc_byte {x : UInt8} (h : x.toNat < 128) : enc x.toNat = [x] := by
  unfold enc encN
  rw [if_pos h]
  simp
theorem part_ok {l : List UInt8} (h : (part l).e = 0) : ∃ c, Scalar c ∧ (part l).s = enc c ∧ 1 ≤ (part l).size ∧ (part l).size ≤ l.length := by
  match l, h with
  | [], h => cases h
  | c :: r, h =>
    unfold part at h ⊢
    dsimp only at h ⊢
    by_cases c1 : c.toNat < 32
    · rw [if_pos c1] at h; cases h
    rw [if_neg c1] at h ⊢
    by_cases c2 : c ≠ 92
    · rw [if_pos c2] at h ⊢
      by_cases c3 : (one (c :: r)).2 = 0
      · rw [if_pos c3] at h; cases h
      rw [if_neg c3]
      obtain ⟨h1, h2, h3⟩ := one_bytes c3
      exact ⟨_, h1, h2, by dsimp only; omega, h3⟩
    rw [if_neg c2] at h ⊢
    match r, h with
    | [], h => cases h
    | d :: r', h =>
      dsimp only at h ⊢
      cases hs : sign d with
      | some x =>
        have := sign_lt hs
        exact ⟨x.toNat, by unfold Scalar; omega, (enc_byte this).symm, by show 1 ≤ 2; omega, by simp⟩
      | none =>
        rw [hs] at h
        dsimp only at h ⊢
        by_cases c4 : d = 117
        · rw [if_pos c4] at h ⊢
          obtain ⟨c, k1, k2, k3, k4⟩ := coded_ok h
          exact ⟨c, k1, k2, by omega, by simp; omega⟩
        · rw [if_neg c4] at h; cases h
/-- From a place on, with what is told so far. -/
def scanF (s : List UInt8) (at' : Nat) (l : List UInt8) : Part :=
  if l.head? = some 34 then ⟨s, at' + 1, 0⟩
  else if _h : (part l).e = 0 then scanF (s ++ (part l).s) (at' + (part l).size) (l.drop (part l).size) else err (part l).e
termination_by l.length
decreasing_by
  obtain ⟨_, _, _, h1, h2⟩ := part_ok _h
  rw [List.length_drop]
  omega
def scan (l : List UInt8) : Part :=
  match l with
  | [] => err 2
  | c :: r => if c ≠ 34 then err 3 else scanF [] 1 r
theorem scanF_end {s : List UInt8} {at' : Nat} {l : List UInt8} (h : l.head? = some 34) : scanF s at' l = ⟨s, at' + 1, 0⟩ := by rw [scanF, if_pos h]
theorem scanF_on {s : List UInt8} {at' : Nat} {l : List UInt8} (h : l.head? ≠ some 34) (he : (part l).e = 0) : scanF s at' l = scanF (s ++ (part l).s) (at' + (part l).size) (l.drop (part l).size) := by
  rw [scanF, if_neg h, dif_pos he]
theorem scanF_err {s : List UInt8} {at' : Nat} {l : List UInt8} (h : l.head? ≠ some 34) (he : (part l).e ≠ 0) : scanF s at' l = err (part l).e := by
  rw [scanF, if_neg h, dif_neg he]
/-- What is told is a text, and ends within the bytes. -/
theorem scanF_ok : ∀ (k : Nat) (l : List UInt8), l.length = k → ∀ (s : List UInt8) (at' : Nat), bad s = none → (scanF s at' l).e = 0 → bad (scanF s at' l).s = none ∧ at' < (scanF s at' l).size ∧ (scanF s at' l).size ≤ at' + l.length := by
  intro k
  induction k using Nat.strongRecOn with
  | ind k ih =>
    intro l hl s at' hs h
    by_cases h1 : l.head? = some 34
    · rw [scanF_end h1]
      refine ⟨hs, Nat.lt_succ_self _, ?_⟩
      have : 0 < l.length := by
        cases l with
        | nil => simp at h1
        | cons _ _ => simp
      dsimp only
      omega
    · by_cases he : (part l).e = 0
      · rw [scanF_on h1 he] at h ⊢
        obtain ⟨c, k1, k2, k3, k4⟩ := part_ok he
        have hb : bad (s ++ (part l).s) = none := by
          unfold bad
          rw [scan_append s _ 0 hs, k2]
          have := scan_enc (p := 0 + s.length) k1 []
          rw [List.append_nil] at this
          rw [this, scan_nil]
        have := ih (l.drop (part l).size).length (by rw [List.length_drop]; omega) _ rfl _ _ hb h
        rw [List.length_drop] at this
        exact ⟨this.1, by omega, by omega⟩
      · rw [scanF_err h1 he] at h
        exact absurd h he
end Go.Proofs.YtlfbnfphocpgeaaGreatDoor.Quo
namespace Go.Proofs.YtlfbnfphocpgeaaGreatDoor.Jdec
open Tre (Val none' Whole Wholes deep deeps)
inductive Got (α : Type) where
  | ok (x : α) (r : List UInt8)
  | no (r : List UInt8) (e : Nat)
def blank (c : UInt8) : Bool := decide (c = 9 ∨ c = 10 ∨ c = 13 ∨ c = 32)
def skip (l : List UInt8) : List UInt8 := l.dropWhile blank
def here {α : Type} (l : List UInt8) : Got α := if l = [] then .no l 2 else .no l 3
def word (v : Val) : List UInt8 → List UInt8 → Got Val
  | [], l => .ok v l
  | _ :: _, [] => .no [] 2
  | c :: w, d :: l => if d = c then word v w l else .no (d :: l) 3
def number (l : List UInt8) : Got Val :=
  if Num.scan l = 0 then (if l.length = 1 then .no l 2 else .no l 3)
  else if (Num.parse (l.take (Num.scan l))).2 ≠ 0 then .no l (Num.parse (l.take (Num.scan l))).2
  else .ok ⟨3, false, (Num.parse (l.take (Num.scan l))).1, [], [], []⟩ (l.drop (Num.scan l))
def text (l : List UInt8) : Got Val :=
  if (Quo.scan l).e ≠ 0 then .no l (Quo.scan l).e else .ok ⟨4, false, Num.zero, (Quo.scan l).s, [], []⟩ (l.drop (Quo.scan l).size)
/-- A key, its colon, blanks. -/
def field (keys : List (List UInt8)) (l : List UInt8) : Got (List UInt8) :=
  if l.head? ≠ some 34 then here l
  else if (Quo.scan l).e ≠ 0 then .no l (Quo.scan l).e
  else if (Quo.scan l).s ∈ keys then .no l 6
  else if (skip (l.drop (Quo.scan l).size)).head? ≠ some 58 then here (skip (l.drop (Quo.scan l).size))
  else .ok (Quo.scan l).s (skip (skip (l.drop (Quo.scan l).size)).tail)
def close (obj : Bool) : UInt8 := if obj then 125 else 93
def made (obj : Bool) (keys : List (List UInt8)) (kids : List Val) : Val := ⟨if obj then 6 else 5, false, Num.zero, [], keys, kids⟩
/-- A key, or none of a list, and what stands behind it. -/
def named (obj : Bool) (keys : List (List UInt8)) (l : List UInt8) : Got (List (List UInt8)) :=
  if obj then (match field keys l with | .ok k r => .ok (keys ++ [k]) r | .no r e => .no r e) else .ok keys l
/-- From an item on. -/
def items (val : List UInt8 → Got Val) (obj : Bool) (keys : List (List UInt8)) (kids : List Val) (l : List UInt8) : Got Val :=
  match named obj keys l with
  | .no r e => .no r e
  | .ok ks l1 => match val l1 with
    | .no r e => .no r e
    | .ok x r =>
      if (skip r).head? = some (close obj) then .ok (made obj ks (kids ++ [x])) (skip r).tail
      else if (skip r).head? ≠ some 44 then here (skip r)
      else if _h : (skip (skip r).tail).length < l.length then items val obj ks (kids ++ [x]) (skip (skip r).tail) else .no l 0
termination_by l.length
def many (val : List UInt8 → Got Val) (l : List UInt8) : Got Val :=
  if (skip l.tail).head? = some (close (decide (l.head? = some 123))) then .ok (made (decide (l.head? = some 123)) [] []) (skip l.tail).tail
  else items val (decide (l.head? = some 123)) [] [] (skip l.tail)
def digit (c : UInt8) : Bool := decide (48 ≤ c.toNat ∧ c.toNat ≤ 57) || decide (c = 45)
def begins (c : UInt8) : Bool := decide (c = 110 ∨ c = 116 ∨ c = 102 ∨ c = 34 ∨ c = 91 ∨ c = 123) || digit c
/-- A value that may be so many more deep. -/
def read (val : List UInt8 → Got Val) (l : List UInt8) : Got Val :=
  match l.head? with
  | none => .no l 2
  | some c =>
    if digit c then number l
    else if c = 110 then word ⟨1, false, Num.zero, [], [], []⟩ [110, 117, 108, 108] l
    else if c = 116 then word ⟨2, true, Num.zero, [], [], []⟩ [116, 114, 117, 101] l
    else if c = 102 then word ⟨2, false, Num.zero, [], [], []⟩ [102, 97, 108, 115, 101] l
    else if c = 34 then text l
    else many val l
def value : Nat → List UInt8 → Got Val
  | 0, l => match l.head? with
    | none => .no l 2
    | some c => if begins c then .no l 5 else .no l 3
  | k + 1, l => match l.head? with
    | none => .no l 2
    | some c => if begins c then read (value k) l else .no l 3
def parse (l : List UInt8) : Got Val :=
  match value 64 (skip l) with
  | .no r e => .no r e
  | .ok v r => if skip r = [] then .ok v [] else .no (skip r) 14
theorem skip_suf (l : List UInt8) : skip l <:+ l := List.dropWhile_suffix _
theorem skip_le (l : List UInt8) : (skip l).length ≤ l.length := (skip_suf l).length_le
theorem tail_suf (l : List UInt8) : l.tail <:+ l := List.tail_suffix l
/-- A got's word on what it is of: it ends within the bytes, and tells what holds. -/
def Good {α : Type} (A : α → List UInt8 → Prop) (l : List UInt8) : Got α → Prop
  | .ok x r => r <:+ l ∧ A x r
  | .no r e => r <:+ l ∧ e ≠ 0
theorem here_good {α : Type} {A : α → List UInt8 → Prop} {l : List UInt8} : Good A l (here l) := by
  unfold here
  split
  · exact ⟨List.suffix_refl _, by decide⟩
  · exact ⟨List.suffix_refl _, by decide⟩
theorem here_suf {α : Type} {A : α → List UInt8 → Prop} {l m : List UInt8} (hs : l <:+ m) : Good A m (here l) := by
  unfold here
  split
  · exact ⟨hs, by decide⟩
  · exact ⟨hs, by decide⟩
theorem Good.of_suf {α : Type} {A B : α → List UInt8 → Prop} {l m : List UInt8} {g : Got α} (h : Good A l g) (hs : l <:+ m) (hb : ∀ x r, r <:+ l → A x r → B x r) : Good B m g := by
  cases g with
  | ok x r => exact ⟨h.1.trans hs, hb _ _ h.1 h.2⟩
  | no r e => exact ⟨h.1.trans hs, h.2⟩
theorem bad_nil : Utf.bad [] = none := by simp [Utf.bad, Utf.scan_nil]
theorem scan_ok {l : List UInt8} (h : (Quo.scan l).e = 0) : Utf.bad (Quo.scan l).s = none ∧ 0 < (Quo.scan l).size ∧ (Quo.scan l).size ≤ l.length := by
  cases l with
  | nil => cases h
  | cons c r =>
    unfold Quo.scan at h ⊢
    dsimp only at h ⊢
    split at h
    · cases h
    · rename_i hc
      rw [if_neg hc]
      have := Quo.scanF_ok r.length r rfl [] 1 bad_nil h
      exact ⟨this.1, by omega, by simp; omega⟩
theorem num_le (l : List UInt8) : Num.scan l ≤ l.length := by
  unfold Num.scan
  split
  · rename_i h
    have h0 := Num.digAt_lt h
    have h1 : Num.intEnd l (Num.neg0 l) ≤ l.length := by
      unfold Num.intEnd
      split
      · omega
      · exact Num.run_le (by omega)
    have h2 : Num.fracEnd l (Num.intEnd l (Num.neg0 l)) ≤ l.length := by
      unfold Num.fracEnd
      split
      · rename_i hh
        exact Num.run_le (Nat.le_of_lt (Num.digAt_lt hh.2))
      · exact h1
    unfold Num.expEnd
    split
    · rename_i hh
      exact Num.run_le (Nat.le_of_lt (Num.digAt_lt hh.2))
    · exact h2
  · exact Nat.zero_le _
theorem num_right (l : List UInt8) : Num.Right (Num.parse l).1 := by
  have hz : Num.Right Num.zero := by decide
  unfold Num.parse
  split
  · exact hz
  · unfold Num.norm
    split
    · exact hz
    · split
      · assumption
      · exact hz
theorem plain_whole {v : Val} (hk : v.kids = []) (h : Tre.Own v) : Whole v := Tre.whole_iff.2 ⟨h, by rw [hk]; simp⟩
theorem own_flat (k : Int) (i : Bool) (n : Num.Dec) (s : List UInt8) (h1 : 1 ≤ k) (h2 : k ≤ 4) (hi : k ≠ 2 → i = false) (hn : k ≠ 3 → n = Num.zero) (hs : k ≠ 4 → s = []) (hr : Num.Right n) (hb : Utf.bad s = none) : Whole ⟨k, i, n, s, [], []⟩ :=
  plain_whole rfl ⟨h1, by show k ≤ 6; omega, hi, hn, hs, fun _ => rfl, fun _ => rfl, hr, hb, fun _ => rfl, by simp [Val.keys], by simp [Val.keys]⟩
theorem zero_right : Num.Right Num.zero := by decide
/-- What a value of so many more may be. -/
def Nice (k : Nat) (l : List UInt8) (v : Val) (r : List UInt8) : Prop := r.length < l.length ∧ Whole v ∧ deep v ≤ k
theorem word_good {v : Val} {k : Nat} (hv : Whole v) (hd : deep v ≤ k) : ∀ (w l : List UInt8), w ≠ [] → Good (Nice k l) l (word v w l)
  | [], _, h => absurd rfl h
  | c :: w, [], _ => ⟨List.suffix_refl _, by decide⟩
  | c :: w, d :: l, _ => by
    unfold word
    split
    · cases w with
      | nil =>
        unfold word
        exact ⟨List.suffix_cons _ _, by simp, hv, hd⟩
      | cons c2 w =>
        exact (word_good hv hd (c2 :: w) l (by simp)).of_suf (List.suffix_cons _ _) fun x r _ h => ⟨by have := h.1; simp; omega, h.2⟩
    · exact ⟨List.suffix_refl _, by decide⟩
theorem number_good (k : Nat) (l : List UInt8) : Good (Nice (k + 1) l) l (number l) := by
  unfold number
  split
  · split
    · exact ⟨List.suffix_refl _, by decide⟩
    · exact ⟨List.suffix_refl _, by decide⟩
  · rename_i h0
    split
    · rename_i h1
      exact ⟨List.suffix_refl _, h1⟩
    · have := num_le l
      exact ⟨List.drop_suffix _ _, by rw [List.length_drop]; omega, own_flat 3 false _ [] (by decide) (by decide) (fun _ => rfl) (fun h => absurd rfl h) (fun _ => rfl) (num_right _) bad_nil, by simp [deep]⟩
theorem text_good (k : Nat) (l : List UInt8) : Good (Nice (k + 1) l) l (text l) := by
  unfold text
  split
  · rename_i h1
    exact ⟨List.suffix_refl _, h1⟩
  · rename_i h1
    obtain ⟨h2, h3, h4⟩ := scan_ok (l := l) (by omega)
    exact ⟨List.drop_suffix _ _, by rw [List.length_drop]; omega, own_flat 4 false Num.zero _ (by decide) (by decide) (fun _ => rfl) (fun _ => rfl) (fun h => absurd rfl h) zero_right h2, by simp [deep]⟩
theorem field_good (keys : List (List UInt8)) (l : List UInt8) : Good (fun k r => r.length < l.length ∧ k ∉ keys ∧ Utf.bad k = none) l (field keys l) := by
  unfold field
  split
  · exact here_good
  · split
    · rename_i h1
      exact ⟨List.suffix_refl _, h1⟩
    · rename_i h1
      obtain ⟨h2, h3, h4⟩ := scan_ok (l := l) (by omega)
      split
      · exact ⟨List.suffix_refl _, by decide⟩
      · rename_i h5
        have s1 : skip (l.drop (Quo.scan l).size) <:+ l := (skip_suf _).trans (List.drop_suffix _ _)
        split
        · exact here_suf s1
        · have := ((skip_suf (skip (l.drop (Quo.scan l).size)).tail).trans (tail_suf _)).length_le
          have := skip_le (l.drop (Quo.scan l).size)
          rw [List.length_drop] at this
          exact ⟨((skip_suf _).trans (tail_suf _)).trans s1, by omega, h5, h2⟩
theorem Good.and {α : Type} {A : α → List UInt8 → Prop} {l : List UInt8} {g : Got α} (h : Good A l g) : ∀ x r, g = .ok x r → r <:+ l ∧ A x r := fun x r e => by subst e; exact h
theorem named_good (obj : Bool) (keys : List (List UInt8)) (l : List UInt8) : Good (fun ks r => r.length ≤ l.length ∧ (if obj then ∃ k, ks = keys ++ [k] ∧ k ∉ keys ∧ Utf.bad k = none else ks = keys)) l (named obj keys l) := by
  unfold named
  cases obj with
  | false => exact ⟨List.suffix_refl _, Nat.le_refl _, rfl⟩
  | true =>
    have h := field_good keys l
    cases hf : field keys l with
    | ok k r =>
      rw [hf] at h
      exact ⟨h.1, Nat.le_of_lt h.2.1, by simpa using ⟨h.2.2.1, h.2.2.2⟩⟩
    | no r e =>
      rw [hf] at h
      exact h
/-- What is between the brackets so far. -/
structure Sofar (k : Nat) (obj : Bool) (keys : List (List UInt8)) (kids : List Val) : Prop where
  len : obj = true → keys.length = kids.length
  none : obj = false → keys = []
  bad : ∀ x ∈ keys, Utf.bad x = Option.none
  nodup : keys.Nodup
  kids : ∀ v ∈ kids, Whole v ∧ deep v ≤ k
theorem made_nice {k : Nat} {obj : Bool} {keys : List (List UInt8)} {kids : List Val} (h : Sofar k obj keys kids) : Whole (made obj keys kids) ∧ deep (made obj keys kids) ≤ k + 1 := by
  have hw : ∀ v ∈ kids, Whole v := fun v hv => (h.kids v hv).1
  have hd : deeps kids ≤ k := Tre.deeps_le.2 fun v hv => (h.kids v hv).2
  cases obj with
  | true =>
    refine ⟨Tre.whole_iff.2 ⟨⟨by simp [made, Val.kind], by simp [made, Val.kind], fun _ => rfl, fun _ => rfl, fun _ => rfl, fun e => absurd e (by simp [made, Val.kind]), fun e => absurd rfl e, zero_right, bad_nil, fun _ => h.len rfl, h.bad, h.nodup⟩, hw⟩, ?_⟩
    simp [made, deep]
    exact hd
  | false =>
    have := h.none rfl
    subst this
    refine ⟨Tre.whole_iff.2 ⟨⟨by simp [made, Val.kind], by simp [made, Val.kind], fun _ => rfl, fun _ => rfl, fun _ => rfl, fun e => absurd e (by simp [made, Val.kind]), fun _ => rfl, zero_right, bad_nil, fun e => absurd e (by simp [made, Val.kind]), by simp [made, Val.keys], by simp [made, Val.keys]⟩, hw⟩, ?_⟩
    simp [made, deep]
    exact hd
theorem items_good {k : Nat} {val : List UInt8 → Got Val} (hval : ∀ l, Good (Nice k l) l (val l)) : ∀ (n : Nat) (l : List UInt8), l.length = n → ∀ (obj : Bool) (keys : List (List UInt8)) (kids : List Val), Sofar k obj keys kids → Good (fun v r => r.length < l.length ∧ Whole v ∧ deep v ≤ k + 1) l (items val obj keys kids l) := by
  intro n
  induction n using Nat.strongRecOn with
  | ind n ih =>
    intro l hl obj keys kids hs
    have hn := named_good obj keys l
    unfold items
    cases hf : named obj keys l with
    | no r e =>
      rw [hf] at hn
      exact hn
    | ok ks l1 =>
      rw [hf] at hn
      obtain ⟨n1, n2, n3⟩ := hn
      have hv := hval l1
      dsimp only
      cases hg : val l1 with
      | no r e =>
        rw [hg] at hv
        exact ⟨hv.1.trans n1, hv.2⟩
      | ok x r =>
        rw [hg] at hv
        obtain ⟨v1, v2, v3, v4⟩ := hv
        dsimp only
        have s1 : skip r <:+ l := ((skip_suf r).trans v1).trans n1
        have z1 := skip_le r
        have hs' : Sofar k obj ks (kids ++ [x]) := by
          have hk : ∀ v ∈ kids ++ [x], Whole v ∧ deep v ≤ k := by
            intro v hv
            rcases List.mem_append.1 hv with hv | hv
            · exact hs.kids v hv
            · rw [List.mem_singleton.1 hv]
              exact ⟨v3, v4⟩
          cases obj with
          | false =>
            have e : ks = keys := n3
            subst e
            exact ⟨fun e => absurd e (by decide), hs.none, hs.bad, hs.nodup, hk⟩
          | true =>
            obtain ⟨c, rfl, c1, c2⟩ : ∃ c, ks = keys ++ [c] ∧ c ∉ keys ∧ Utf.bad c = Option.none := n3
            refine ⟨fun _ => by simp [hs.len rfl], fun e => absurd e (by decide), ?_, ?_, hk⟩
            · intro y hy
              rcases List.mem_append.1 hy with hy | hy
              · exact hs.bad y hy
              · rw [List.mem_singleton.1 hy]
                exact c2
            · rw [List.nodup_append]
              refine ⟨hs.nodup, by simp, ?_⟩
              intro a ha b hb e
              subst e
              rw [List.mem_singleton.1 hb] at ha
              exact c1 ha
        split
        · rename_i hc
          have : 0 < (skip r).length := by
            cases h9 : skip r with
            | nil => rw [h9] at hc; cases hc
            | cons _ _ => simp
          exact ⟨(tail_suf _).trans s1, by rw [List.length_tail]; omega, made_nice hs'⟩
        · split
          · exact here_suf s1
          · rename_i hc
            have hc : (skip r).head? = some 44 := by simpa using hc
            have h0 : 0 < (skip r).length := by
              cases h9 : skip r with
              | nil => rw [h9] at hc; cases hc
              | cons _ _ => simp
            have z2 := skip_le (skip r).tail
            rw [List.length_tail] at z2
            have s2 : skip (skip r).tail <:+ l := ((skip_suf _).trans (tail_suf _)).trans s1
            rw [dif_pos (by omega)]
            exact (ih _ (by omega) _ rfl obj ks _ hs').of_suf s2 fun v r _ h => ⟨by have := h.1; omega, h.2⟩
theorem sofar_nil (k : Nat) (obj : Bool) : Sofar k obj [] [] := ⟨fun _ => rfl, fun _ => rfl, by simp, by simp, by simp⟩
theorem many_good {k : Nat} {val : List UInt8 → Got Val} (hval : ∀ l, Good (Nice k l) l (val l)) {l : List UInt8} (hl : l ≠ []) : Good (Nice (k + 1) l) l (many val l) := by
  have h0 : 0 < l.length := List.length_pos_iff.2 hl
  have z := skip_le l.tail
  rw [List.length_tail] at z
  have s : skip l.tail <:+ l := (skip_suf _).trans (tail_suf _)
  unfold many
  split
  · exact ⟨(tail_suf _).trans s, by rw [List.length_tail]; omega, made_nice (sofar_nil k _)⟩
  · exact (items_good hval _ _ rfl _ [] [] (sofar_nil k _)).of_suf s fun v r _ h => ⟨by have := h.1; omega, h.2⟩
theorem value_good : ∀ (k : Nat) (l : List UInt8), Good (Nice k l) l (value k l)
  | 0, l => by
    unfold value
    cases l with
    | nil => exact ⟨List.suffix_refl _, by decide⟩
    | cons c r =>
      show Good _ _ (if begins c then .no (c :: r) 5 else .no (c :: r) 3)
      split
      · exact ⟨List.suffix_refl _, by decide⟩
      · exact ⟨List.suffix_refl _, by decide⟩
  | k + 1, l => by
    unfold value
    cases l with
    | nil => exact ⟨List.suffix_refl _, by decide⟩
    | cons c r =>
      show Good _ _ (if begins c then read (value k) (c :: r) else .no (c :: r) 3)
      split
      · unfold read
        show Good _ _ (if digit c then _ else _)
        split
        · exact number_good k _
        · split
          · exact word_good (own_flat 1 false Num.zero [] (by decide) (by decide) (fun _ => rfl) (fun _ => rfl) (fun _ => rfl) zero_right bad_nil) (by simp [deep]) _ _ (by simp)
          · split
            · exact word_good (own_flat 2 true Num.zero [] (by decide) (by decide) (fun h => absurd rfl h) (fun _ => rfl) (fun _ => rfl) zero_right bad_nil) (by simp [deep]) _ _ (by simp)
            · split
              · exact word_good (own_flat 2 false Num.zero [] (by decide) (by decide) (fun _ => rfl) (fun _ => rfl) (fun _ => rfl) zero_right bad_nil) (by simp [deep]) _ _ (by simp)
              · split
                · exact text_good k _
                · exact many_good (value_good k) (by simp)
      · exact ⟨List.suffix_refl _, by decide⟩
/-- What is told of any bytes is right; an error's place lies within them. -/
theorem parse_good (l : List UInt8) : Good (fun v r => r = [] ∧ Tre.Right v) l (parse l) := by
  have h := value_good 64 (skip l)
  unfold parse
  cases hv : value 64 (skip l) with
  | no r e =>
    rw [hv] at h
    exact ⟨h.1.trans (skip_suf l), h.2⟩
  | ok v r =>
    rw [hv] at h
    obtain ⟨h1, h2, h3, h4⟩ := h
    dsimp only
    split
    · exact ⟨List.nil_suffix, rfl, h4, h3⟩
    · exact ⟨((skip_suf r).trans h1).trans (skip_suf l), by decide⟩
end Go.Proofs.YtlfbnfphocpgeaaGreatDoor.Jdec
namespace Go.Proofs.YtlfbnfphocpgeaaGreatDoor.Jdec
open Tre (Val none' Whole Wholes deep deeps)
open Num (nb dg DigAt run)
theorem nb_left {l : List UInt8} (t : List UInt8) {i : Nat} (h : i < l.length) : nb (l ++ t) i = nb l i := by
  unfold Num.nb
  rw [List.getD_eq_getElem?_getD, List.getD_eq_getElem?_getD, List.getElem?_append_left h]
theorem dig_left {l : List UInt8} (t : List UInt8) {i : Nat} (h : i < l.length) : DigAt (l ++ t) i ↔ DigAt l i := by
  unfold Num.DigAt
  rw [nb_left t h]
theorem run_end : ∀ (n : Nat) (l : List UInt8) (i : Nat), l.length - i = n → ¬ DigAt l (run l i) ∧ (∀ j, i ≤ j → j < run l i → DigAt l j) := by
  intro n
  induction n using Nat.strongRecOn with
  | ind n ih =>
    intro l i hn
    by_cases h : DigAt l i
    · have h0 := Num.digAt_lt h
      rw [Num.run_on h]
      obtain ⟨h1, h2⟩ := ih (l.length - (i + 1)) (by omega) l (i + 1) rfl
      refine ⟨h1, fun j hj hr => ?_⟩
      by_cases e : j = i
      · subst e; exact h
      · exact h2 j (by omega) hr
    · rw [Num.run_stop h]
      exact ⟨h, fun j h1 h2 => by omega⟩
theorem run_left {t : List UInt8} : ∀ (n : Nat) (l : List UInt8) (i : Nat), l.length - i = n → ¬ DigAt (l ++ t) (run l i) → run (l ++ t) i = run l i := by
  intro n
  induction n using Nat.strongRecOn with
  | ind n ih =>
    intro l i hn h
    by_cases hd : DigAt l i
    · have h0 := Num.digAt_lt hd
      rw [Num.run_on hd] at h ⊢
      rw [Num.run_on ((dig_left t h0).2 hd)]
      exact ih (l.length - (i + 1)) (by omega) l (i + 1) rfl h
    · rw [Num.run_stop hd] at h ⊢
      exact Num.run_stop h
/-- No number goes on at a place. -/
def StopAt (l : List UInt8) (i : Nat) : Prop := ¬ DigAt l i ∧ nb l i ≠ 46 ∧ nb l i ≠ 101 ∧ nb l i ≠ 69
theorem scan_left {l t : List UInt8} (h0 : Num.scan l ≠ 0) (hs : StopAt (l ++ t) (Num.scan l)) : Num.scan (l ++ t) = Num.scan l := by
  obtain ⟨s1, s2, s3, s4⟩ := hs
  have hd : DigAt l (Num.neg0 l) := by
    apply Decidable.byContradiction
    intro h
    exact h0 (by unfold Num.scan; rw [if_neg h])
  have l0 := Num.digAt_lt hd
  have en : Num.neg0 (l ++ t) = Num.neg0 l := by
    unfold Num.neg0
    rw [nb_left t (by omega)]
  obtain ⟨a, ha⟩ : ∃ a, Num.intEnd l (Num.neg0 l) = a := ⟨_, rfl⟩
  obtain ⟨f, hf⟩ : ∃ f, Num.fracEnd l a = f := ⟨_, rfl⟩
  obtain ⟨n, hn⟩ : ∃ n, Num.expEnd l f = n := ⟨_, rfl⟩
  have e1 : Num.scan l = n := by unfold Num.scan; rw [if_pos hd, ha, hf, hn]
  rw [e1] at s1 s2 s3 s4 ⊢
  have la : a ≤ l.length := by
    rw [← ha]; unfold Num.intEnd
    split
    · omega
    · exact Num.run_le (by omega)
  have past : ∀ i, l.length ≤ i → nb l i = 0 := fun i hi => Num.nb_past hi
  have lf : a ≤ f ∧ f ≤ l.length := by
    rw [← hf]; unfold Num.fracEnd
    split
    · rename_i hh
      have := Num.run_ge l (a + 1)
      exact ⟨by omega, Num.run_le (Nat.le_of_lt (Num.digAt_lt hh.2))⟩
    · exact ⟨Nat.le_refl _, la⟩
  have ln : f ≤ n ∧ n ≤ l.length := by
    rw [← hn]; unfold Num.expEnd
    split
    · rename_i hh
      have := Num.run_ge l (Num.signEnd l (f + 1))
      have : f + 1 ≤ Num.signEnd l (f + 1) := by unfold Num.signEnd; split <;> omega
      exact ⟨by omega, Num.run_le (Nat.le_of_lt (Num.digAt_lt hh.2))⟩
    · exact ⟨Nat.le_refl _, lf.2⟩
  have ea : a = l.length → n = a := fun e => by
    have e2 : f = a := by
      rw [← hf]; unfold Num.fracEnd
      rw [if_neg (fun hh => by have := past a (by omega); omega)]
    have e3 : n = f := by
      rw [← hn]; unfold Num.expEnd
      rw [if_neg (fun hh => by have := past f (by omega); omega)]
    omega
  have ef : f = l.length → n = f := fun e => by
    rw [← hn]; unfold Num.expEnd
    rw [if_neg (fun hh => by have := past f (by omega); omega)]
  have i1 : Num.intEnd (l ++ t) (Num.neg0 l) = a := by
    unfold Num.intEnd at ha ⊢
    rw [nb_left t l0]
    split
    · rename_i hz
      rw [if_pos hz] at ha
      exact ha
    · rename_i hz
      rw [if_neg hz] at ha
      rw [run_left _ l _ rfl, ha]
      rw [ha]
      by_cases e : a = l.length
      · rw [← ea e]; exact s1
      · rw [dig_left t (by omega), ← ha]
        exact (run_end _ l _ rfl).1
  have i2 : Num.fracEnd (l ++ t) a = f := by
    unfold Num.fracEnd at hf ⊢
    by_cases c : nb l a = 46 ∧ DigAt l (a + 1)
    · have l1 := Num.digAt_lt c.2
      rw [if_pos c] at hf
      rw [if_pos ⟨by rw [nb_left t (by omega)]; exact c.1, (dig_left t l1).2 c.2⟩]
      rw [run_left _ l _ rfl, hf]
      rw [hf]
      by_cases e : f = l.length
      · rw [← ef e]; exact s1
      · rw [dig_left t (by omega), ← hf]
        exact (run_end _ l _ rfl).1
    · rw [if_neg c] at hf
      subst hf
      rw [if_neg]
      rintro ⟨c1, -⟩
      by_cases e : a = l.length
      · rw [← ea e] at c1
        exact s2 c1
      · have c3 := c1
        rw [nb_left t (by omega)] at c1
        have : n = a := by
          rw [← hn]; unfold Num.expEnd
          rw [if_neg (fun hh => by omega)]
        rw [this] at s2
        exact s2 c3
  have i3 : Num.expEnd (l ++ t) f = n := by
    unfold Num.expEnd at hn ⊢
    by_cases c : (nb l f = 101 ∨ nb l f = 69) ∧ DigAt l (Num.signEnd l (f + 1))
    · have l1 := Num.digAt_lt c.2
      have g : f + 1 ≤ Num.signEnd l (f + 1) := by unfold Num.signEnd; split <;> omega
      have e2 : Num.signEnd (l ++ t) (f + 1) = Num.signEnd l (f + 1) := by
        unfold Num.signEnd
        rw [nb_left t (by omega)]
      rw [if_pos c] at hn
      rw [e2, if_pos ⟨by rw [nb_left t (by omega)]; exact c.1, (dig_left t l1).2 c.2⟩]
      rw [run_left _ l _ rfl, hn]
      rw [hn]
      exact s1
    · rw [if_neg c] at hn
      subst hn
      rw [if_neg]
      rintro ⟨c1, -⟩
      omega
  unfold Num.scan
  rw [en, if_pos ((dig_left t l0).2 hd), i1, i2, i3]
/-- The bytes of a number: digits, and what stands between them. -/
def numeric (k : Nat) : Prop := 48 ≤ k ∧ k ≤ 57 ∨ k = 43 ∨ k = 45 ∨ k = 46 ∨ k = 101 ∨ k = 69
instance (k : Nat) : Decidable (numeric k) := by unfold numeric; exact inferInstance
theorem scan_numeric (l : List UInt8) : ∀ i, i < Num.scan l → numeric (nb l i) := by
  unfold Num.scan
  split
  · rename_i hd
    have dig : ∀ j, DigAt l j → numeric (nb l j) := fun j h => .inl h
    have l1 : ∀ i, i < Num.intEnd l (Num.neg0 l) → numeric (nb l i) := by
      intro i hi
      by_cases h0 : i < Num.neg0 l
      · unfold Num.neg0 at h0
        split at h0
        · rename_i h9
          have : i = 0 := by omega
          subst this
          unfold numeric
          omega
        · omega
      · unfold Num.intEnd at hi
        split at hi
        · have : i = Num.neg0 l := by omega
          subst this
          exact dig _ hd
        · exact dig _ ((run_end _ l _ rfl).2 i (by omega) hi)
    have l2 : ∀ i, i < Num.fracEnd l (Num.intEnd l (Num.neg0 l)) → numeric (nb l i) := by
      intro i hi
      by_cases h0 : i < Num.intEnd l (Num.neg0 l)
      · exact l1 i h0
      · unfold Num.fracEnd at hi
        split at hi
        · rename_i hh
          by_cases e : i = Num.intEnd l (Num.neg0 l)
          · subst e
            unfold numeric
            omega
          · exact dig _ ((run_end _ l _ rfl).2 i (by omega) hi)
        · omega
    intro i hi
    by_cases h0 : i < Num.fracEnd l (Num.intEnd l (Num.neg0 l))
    · exact l2 i h0
    · generalize Num.fracEnd l (Num.intEnd l (Num.neg0 l)) = f at *
      unfold Num.expEnd at hi
      split at hi
      · rename_i hh
        by_cases e : i = f
        · subst e
          unfold numeric
          omega
        · by_cases e2 : i < Num.signEnd l (f + 1)
          · unfold Num.signEnd at e2
            split at e2
            · have : i = f + 1 := by omega
              subst this
              unfold numeric
              omega
            · omega
          · exact dig _ ((run_end _ l _ rfl).2 i (by omega) hi)
      · omega
  · intro i hi
    omega
theorem one_left {l : List UInt8} (t : List UInt8) (h : (Utf.one l).2 ≠ 0) : Utf.one (l ++ t) = Utf.one l := by
  obtain ⟨h1, h2, h3⟩ := Utf.one_bytes h
  have := Utf.one_of_take (n := (Utf.one l).2) (l := l ++ t) h1 (by rw [List.take_append_of_le_length h3]; exact h2) (by rw [List.length_append]; omega)
  exact this
theorem unitF_left (t : List UInt8) : ∀ (k n : Nat) (l : List UInt8), (Quo.unitF k n l).2 = 0 → Quo.unitF k n (l ++ t) = Quo.unitF k n l
  | 0, _, _, _ => rfl
  | k + 1, n, [], h => by simp [Quo.unitF] at h
  | k + 1, n, c :: r, h => by
    rw [List.cons_append]
    unfold Quo.unitF at h ⊢
    cases hx : Quo.hexV c with
    | none => rfl
    | some d =>
      rw [hx] at h
      exact unitF_left t k _ r h
theorem unit_left {l : List UInt8} (t : List UInt8) (h : (Quo.unit l).2 = 0) : Quo.unit (l ++ t) = Quo.unit l := unitF_left t 4 0 l h
theorem follow_left {l : List UInt8} (t : List UInt8) (h : Quo.follow l = 0) : Quo.follow (l ++ t) = 0 := by
  unfold Quo.follow at h ⊢
  match l, h with
  | a :: b :: r, h => exact h
  | [a], h =>
    dsimp only at h
    split at h <;> cases h
theorem coded_left {l : List UInt8} (t : List UInt8) (h : (Quo.coded l).e = 0) : Quo.coded (l ++ t) = Quo.coded l := by
  unfold Quo.coded at h ⊢
  by_cases c1 : (Quo.unit l).2 ≠ 0
  · rw [if_pos c1] at h; exact absurd h c1
  have c1 : (Quo.unit l).2 = 0 := by omega
  have l1 := Quo.unit_len c1
  rw [unit_left t c1, List.drop_append_of_le_length l1]
  rw [if_neg (by omega)] at h ⊢
  by_cases c2 : 56320 ≤ (Quo.unit l).1 ∧ (Quo.unit l).1 ≤ 57343
  · rw [if_pos c2] at h; cases h
  rw [if_neg c2] at h ⊢
  by_cases c3 : (Quo.unit l).1 < 55296 ∨ 57343 < (Quo.unit l).1
  · rw [if_pos c3, if_neg (by omega), if_neg c2, if_pos c3]
  rw [if_neg c3] at h ⊢
  by_cases c4 : Quo.follow (l.drop 4) ≠ 0
  · rw [if_pos c4] at h; exact absurd h c4
  have c4 : Quo.follow (l.drop 4) = 0 := by omega
  rw [if_neg (by omega)] at h
  by_cases c5 : (Quo.unit (l.drop 6)).2 ≠ 0
  · rw [if_pos c5] at h; exact absurd h c5
  have c5 : (Quo.unit (l.drop 6)).2 = 0 := by omega
  have l2 := Quo.unit_len c5
  rw [List.length_drop] at l2
  rw [follow_left t c4, List.drop_append_of_le_length (show 6 ≤ l.length by omega), unit_left t c5]
  rw [if_neg (by omega : ¬ (Quo.unit l).2 ≠ 0), if_neg c2, if_neg c3, if_neg (by omega : ¬ Quo.follow (l.drop 4) ≠ 0), if_neg (by omega : ¬ (0 : Nat) ≠ 0)]
theorem part_left {l : List UInt8} (t : List UInt8) (h : (Quo.part l).e = 0) : Quo.part (l ++ t) = Quo.part l := by
  match l, h with
  | [], h => cases h
  | c :: r, h =>
    rw [List.cons_append]
    unfold Quo.part at h ⊢
    dsimp only at h ⊢
    by_cases c1 : c.toNat < 32
    · rw [if_pos c1] at h; cases h
    rw [if_neg c1] at h
    rw [if_neg c1, if_neg c1]
    by_cases c2 : c ≠ 92
    · rw [if_pos c2] at h
      rw [if_pos c2, if_pos c2]
      by_cases c3 : (Utf.one (c :: r)).2 = 0
      · rw [if_pos c3] at h; cases h
      have e := one_left t c3
      rw [List.cons_append] at e
      obtain ⟨-, -, h3⟩ := Utf.one_bytes c3
      rw [e, ← List.cons_append, List.take_append_of_le_length h3]
    rw [if_neg c2] at h
    rw [if_neg c2, if_neg c2]
    match r, h with
    | [], h => cases h
    | d :: r', h =>
      rw [List.cons_append]
      dsimp only at h ⊢
      cases hs : Quo.sign d with
      | some x => rfl
      | none =>
        rw [hs] at h
        dsimp only at h ⊢
        by_cases c4 : d = 117
        · rw [if_pos c4] at h
          rw [if_pos c4, if_pos c4]
          exact coded_left t h
        · rw [if_neg c4] at h; cases h
theorem scanF_left (t : List UInt8) : ∀ (k : Nat) (l : List UInt8), l.length = k → ∀ (s : List UInt8) (at' : Nat), (Quo.scanF s at' l).e = 0 → Quo.scanF s at' (l ++ t) = Quo.scanF s at' l := by
  intro k
  induction k using Nat.strongRecOn with
  | ind k ih =>
    intro l hl s at' h
    have hne : l ≠ [] := by
      rintro rfl
      rw [Quo.scanF_err (by simp) (by simp [Quo.part, Quo.err])] at h
      cases h
    have hh : (l ++ t).head? = l.head? := by
      cases l with
      | nil => exact absurd rfl hne
      | cons _ _ => rfl
    by_cases h1 : l.head? = some 34
    · rw [Quo.scanF_end h1, Quo.scanF_end (hh.trans h1)]
    · by_cases he : (Quo.part l).e = 0
      · obtain ⟨c, k1, k2, k3, k4⟩ := Quo.part_ok he
        have hp := part_left t he
        rw [Quo.scanF_on h1 he] at h ⊢
        rw [Quo.scanF_on (by rw [hh]; exact h1) (by rw [hp]; exact he), hp, List.drop_append_of_le_length k4]
        exact ih (l.drop (Quo.part l).size).length (by rw [List.length_drop]; omega) _ rfl _ _ h
      · rw [Quo.scanF_err h1 he] at h
        exact absurd h he
theorem quo_left {l : List UInt8} (t : List UInt8) (h : (Quo.scan l).e = 0) : Quo.scan (l ++ t) = Quo.scan l := by
  cases l with
  | nil => cases h
  | cons c r =>
    rw [List.cons_append]
    unfold Quo.scan at h ⊢
    dsimp only at h ⊢
    by_cases hc : c ≠ 34
    · rw [if_pos hc] at h; cases h
    · rw [if_neg hc] at h ⊢
      rw [if_neg hc]
      exact scanF_left t _ r rfl _ _ h
theorem skip_left {l : List UInt8} (t : List UInt8) (h : skip l ≠ []) : skip (l ++ t) = skip l ++ t := by
  induction l with
  | nil => exact absurd rfl h
  | cons c r ih =>
    unfold skip at *
    rw [List.cons_append, List.dropWhile_cons, List.dropWhile_cons]
    rw [List.dropWhile_cons] at h
    split
    · rename_i hb
      rw [if_pos hb] at h
      exact ih h
    · rfl
theorem skip_nil {l : List UInt8} : skip l = [] ↔ ∀ c ∈ l, blank c = true := by
  induction l with
  | nil => simp [skip]
  | cons c r ih =>
    unfold skip at *
    rw [List.dropWhile_cons]
    split
    · rename_i hb
      rw [ih]
      simp [hb]
    · rename_i hb
      constructor
      · intro h; cases h
      · intro h; exact absurd (h c (by simp)) hb
/-- No number goes on there. -/
def Stop (l : List UInt8) : Prop := ∀ c, l.head? = some c → ¬ (48 ≤ c.toNat ∧ c.toNat ≤ 57) ∧ c ≠ 46 ∧ c ≠ 101 ∧ c ≠ 69
theorem nb_at {A : List UInt8} {n : Nat} (B : List UInt8) (h : A.length = n) : nb (A ++ B) n = nb B 0 := by
  have := Num.nb_app A B 0
  rw [Nat.add_zero, h] at this
  exact this
theorem stop_at {l t : List UInt8} {n : Nat} (hn : n ≤ l.length) (h : Stop (l.drop n ++ t)) : StopAt (l ++ t) n := by
  have e : l ++ t = l.take n ++ (l.drop n ++ t) := by rw [← List.append_assoc, List.take_append_drop]
  have hl : (l.take n).length = n := by rw [List.length_take]; omega
  unfold StopAt Num.DigAt
  rw [e, nb_at _ hl]
  generalize l.drop n ++ t = x at *
  cases x with
  | nil => rw [Num.nb_nil]; omega
  | cons c r =>
    obtain ⟨h1, h2, h3, h4⟩ := h c rfl
    rw [Num.nb_zero]
    exact ⟨h1, fun e => h2 (UInt8.toNat_inj.1 e), fun e => h3 (UInt8.toNat_inj.1 e), fun e => h4 (UInt8.toNat_inj.1 e)⟩
theorem number_left {l t r : List UInt8} {v : Val} (h : number l = .ok v r) (hs : Stop (r ++ t)) : number (l ++ t) = .ok v (r ++ t) := by
  unfold number at h ⊢
  by_cases h0 : Num.scan l = 0
  · rw [if_pos h0] at h
    split at h <;> cases h
  · rw [if_neg h0] at h
    by_cases h1 : (Num.parse (l.take (Num.scan l))).2 ≠ 0
    · rw [if_pos h1] at h; cases h
    · rw [if_neg h1] at h
      injection h with hv hr
      subst hr
      have le := num_le l
      have e := scan_left h0 (stop_at le hs)
      rw [e, if_neg h0, List.take_append_of_le_length le, if_neg h1, List.drop_append_of_le_length le, hv]
theorem number_kind {l r : List UInt8} {v : Val} (h : number l = .ok v r) : v.kind = 3 ∧ r = l.drop (Num.scan l) ∧ Num.scan l ≠ 0 := by
  unfold number at h
  split at h
  · split at h <;> cases h
  · rename_i h0
    split at h
    · cases h
    · injection h with hv hr
      subst hv hr
      exact ⟨rfl, rfl, h0⟩
theorem word_left (v : Val) (t : List UInt8) : ∀ (w l r : List UInt8) (x : Val), word v w l = .ok x r → word v w (l ++ t) = .ok x (r ++ t) ∧ x = v
  | [], l, r, x, h => by
    unfold word at h ⊢
    injection h with h1 h2
    subst h1 h2
    exact ⟨rfl, rfl⟩
  | c :: w, [], r, x, h => by
    unfold word at h
    cases h
  | c :: w, d :: l, r, x, h => by
    rw [List.cons_append]
    unfold word at h ⊢
    by_cases e : d = c
    · rw [if_pos e] at h ⊢
      exact word_left v t w l r x h
    · rw [if_neg e] at h
      cases h
theorem text_left {l r : List UInt8} {v : Val} (t : List UInt8) (h : text l = .ok v r) : text (l ++ t) = .ok v (r ++ t) := by
  unfold text at h ⊢
  split at h
  · cases h
  · rename_i h1
    have h1 : (Quo.scan l).e = 0 := by omega
    obtain ⟨-, -, h4⟩ := scan_ok h1
    injection h with hv hr
    rw [quo_left t h1, if_neg (by omega), List.drop_append_of_le_length h4, hv, hr]
theorem head_left {l : List UInt8} (t : List UInt8) (h : l ≠ []) : (l ++ t).head? = l.head? := by
  cases l with
  | nil => exact absurd rfl h
  | cons _ _ => rfl
theorem tail_left {l : List UInt8} (t : List UInt8) (h : l ≠ []) : (l ++ t).tail = l.tail ++ t := by
  cases l with
  | nil => exact absurd rfl h
  | cons _ _ => rfl
theorem ne_of_head {l : List UInt8} {c : UInt8} (h : l.head? = some c) : l ≠ [] := by
  rintro rfl
  cases h
theorem field_left {keys : List (List UInt8)} {l r k : List UInt8} (t : List UInt8) (h : field keys l = .ok k r) (hr : r ≠ []) : field keys (l ++ t) = .ok k (r ++ t) := by
  unfold field at h ⊢
  by_cases h1 : l.head? ≠ some 34
  · rw [if_pos h1] at h; unfold here at h; split at h <;> cases h
  rw [if_neg h1] at h
  have h1 : l.head? = some 34 := by simpa using h1
  by_cases h2 : (Quo.scan l).e ≠ 0
  · rw [if_pos h2] at h; cases h
  rw [if_neg h2] at h
  have h2 : (Quo.scan l).e = 0 := by omega
  obtain ⟨-, -, h4⟩ := scan_ok h2
  by_cases h3 : (Quo.scan l).s ∈ keys
  · rw [if_pos h3] at h; cases h
  rw [if_neg h3] at h
  by_cases h5 : (skip (l.drop (Quo.scan l).size)).head? ≠ some 58
  · rw [if_pos h5] at h; unfold here at h; split at h <;> cases h
  rw [if_neg h5] at h
  have h5 : (skip (l.drop (Quo.scan l).size)).head? = some 58 := by simpa using h5
  injection h with hk hr'
  have n5 := ne_of_head h5
  rw [head_left t (ne_of_head h1), if_neg (by simpa using h1), quo_left t h2, if_neg (by omega), if_neg h3, List.drop_append_of_le_length h4, skip_left t n5, head_left t n5, if_neg (by simpa using h5), tail_left t n5, skip_left t (by rw [hr']; exact hr), hr', hk]
theorem named_left {obj : Bool} {keys ks : List (List UInt8)} {l r : List UInt8} (t : List UInt8) (h : named obj keys l = .ok ks r) (hr : r ≠ []) : named obj keys (l ++ t) = .ok ks (r ++ t) := by
  unfold named at h ⊢
  cases obj with
  | false =>
    simp only [Bool.false_eq_true, if_false] at h ⊢
    injection h with h1 h2
    rw [h1, h2]
  | true =>
    simp only [if_true] at h ⊢
    cases hf : field keys l with
    | no r e => rw [hf] at h; cases h
    | ok k r' =>
      rw [hf] at h
      injection h with h1 h2
      rw [field_left t hf (by rw [h2]; exact hr)]
      dsimp only
      rw [h1, h2]
/-- A reader of values keeps what it tells, whatever stands behind. -/
def Left (val : List UInt8 → Got Val) : Prop := ∀ (l r t : List UInt8) (v : Val), val l = .ok v r → (v.kind = 3 → Stop (r ++ t)) → val (l ++ t) = .ok v (r ++ t)
theorem stop_skip {r t : List UInt8} {c : UInt8} (h : (skip r).head? = some c) (hc : c = 44 ∨ c = 93 ∨ c = 125) : Stop (r ++ t) := by
  cases r with
  | nil => cases h
  | cons d r' =>
    intro x hx
    rw [List.cons_append] at hx
    injection hx with hx
    subst hx
    unfold skip at h
    rw [List.dropWhile_cons] at h
    split at h
    · rename_i hb
      unfold blank at hb
      rcases (by simpa using hb : d = 9 ∨ d = 10 ∨ d = 13 ∨ d = 32) with rfl | rfl | rfl | rfl <;> decide
    · injection h with h1
      subst h1
      rcases hc with rfl | rfl | rfl <;> decide
theorem items_some {k : Nat} {val : List UInt8 → Got Val} (hval : ∀ l, Good (Nice k l) l (val l)) {obj : Bool} {keys : List (List UInt8)} {kids : List Val} {v : Val} {l r : List UInt8} (h : items val obj keys kids l = .ok v r) : l ≠ [] := by
  rintro rfl
  unfold items at h
  have : named obj keys [] = .ok keys [] ∨ ∃ r e, named obj keys [] = .no r e := by
    unfold named
    cases obj with
    | false => exact .inl rfl
    | true => exact .inr ⟨[], 2, rfl⟩
  rcases this with e | ⟨_, _, e⟩
  · rw [e] at h
    dsimp only at h
    have g := hval []
    cases hz : val [] with
    | no _ _ => rw [hz] at h; cases h
    | ok _ _ => rw [hz] at g; have := g.2.1; simp at this
  · rw [e] at h; cases h
theorem items_left {k : Nat} {val : List UInt8 → Got Val} (hl : Left val) (hval : ∀ l, Good (Nice k l) l (val l)) (t : List UInt8) : ∀ (n : Nat) (l : List UInt8), l.length = n → ∀ (obj : Bool) (keys : List (List UInt8)) (kids : List Val) (v : Val) (r : List UInt8), items val obj keys kids l = .ok v r → items val obj keys kids (l ++ t) = .ok v (r ++ t) := by
  intro n
  induction n using Nat.strongRecOn with
  | ind n ih =>
    intro l hn obj keys kids v r h
    unfold items at h ⊢
    cases hf : named obj keys l with
    | no r e => rw [hf] at h; cases h
    | ok ks l1 =>
      rw [hf] at h
      dsimp only at h
      cases hg : val l1 with
      | no r e => rw [hg] at h; cases h
      | ok x r1 =>
        rw [hg] at h
        dsimp only at h
        have g := hval l1
        rw [hg] at g
        have n1 : l1 ≠ [] := by
          rintro rfl
          have := g.2.1
          simp at this
        rw [named_left t hf n1]
        dsimp only
        by_cases c1 : (skip r1).head? = some (close obj)
        · have n2 := ne_of_head c1
          have hc : close obj = 44 ∨ close obj = 93 ∨ close obj = 125 := by
            unfold close
            cases obj <;> simp
          rw [if_pos c1] at h
          rw [hl _ _ t _ hg (fun _ => stop_skip c1 hc)]
          dsimp only
          rw [skip_left t n2, head_left t n2, if_pos c1, tail_left t n2]
          injection h with h1 h2
          rw [h1, h2]
        · rw [if_neg c1] at h
          by_cases c2 : (skip r1).head? ≠ some 44
          · rw [if_pos c2] at h
            unfold here at h
            split at h <;> cases h
          · rw [if_neg c2] at h
            have c3 : (skip r1).head? = some 44 := by simpa using c2
            have n2 := ne_of_head c3
            rw [hl _ _ t _ hg (fun _ => stop_skip c3 (.inl rfl))]
            dsimp only
            rw [skip_left t n2, head_left t n2, if_neg c1, if_neg c2, tail_left t n2]
            split at h
            · rename_i hlt
              have i := ih _ (by omega) _ rfl obj ks _ _ _ h
              rw [skip_left t (items_some hval h), dif_pos (by simp; omega)]
              exact i
            · cases h
theorem many_left {k : Nat} {val : List UInt8 → Got Val} (hl : Left val) (hval : ∀ l, Good (Nice k l) l (val l)) {l r : List UInt8} {v : Val} (t : List UInt8) (hne : l ≠ []) (h : many val l = .ok v r) : many val (l ++ t) = .ok v (r ++ t) := by
  unfold many at h ⊢
  rw [head_left t hne, tail_left t hne]
  by_cases c : (skip l.tail).head? = some (close (decide (l.head? = some 123)))
  · rw [if_pos c] at h
    have n := ne_of_head c
    rw [skip_left t n, head_left t n, if_pos c, tail_left t n]
    injection h with h1 h2
    rw [h1, h2]
  · rw [if_neg c] at h
    have n := items_some hval h
    rw [skip_left t n, head_left t n, if_neg c]
    exact items_left hl hval t _ _ rfl _ _ _ _ _ h
theorem value_left : ∀ (k : Nat), Left (value k)
  | 0, l, r, t, v, h, _ => by
    unfold value at h
    cases l with
    | nil => cases h
    | cons c q =>
      dsimp only [List.head?_cons] at h
      split at h <;> cases h
  | k + 1, l, r, t, v, h, hs => by
    unfold value at h ⊢
    cases l with
    | nil => cases h
    | cons c q =>
      rw [List.cons_append]
      dsimp only [List.head?_cons] at h ⊢
      by_cases hb : begins c = true
      · rw [if_pos hb] at h ⊢
        unfold read at h ⊢
        dsimp only [List.head?_cons] at h ⊢
        by_cases c1 : digit c = true
        · rw [if_pos c1] at h ⊢
          exact number_left h (hs (number_kind h).1)
        · rw [if_neg c1] at h ⊢
          by_cases c2 : c = 110
          · rw [if_pos c2] at h ⊢
            exact (word_left _ t _ _ _ _ h).1
          · rw [if_neg c2] at h ⊢
            by_cases c3 : c = 116
            · rw [if_pos c3] at h ⊢
              exact (word_left _ t _ _ _ _ h).1
            · rw [if_neg c3] at h ⊢
              by_cases c4 : c = 102
              · rw [if_pos c4] at h ⊢
                exact (word_left _ t _ _ _ _ h).1
              · rw [if_neg c4] at h ⊢
                by_cases c5 : c = 34
                · rw [if_pos c5] at h ⊢
                  exact text_left t h
                · rw [if_neg c5] at h ⊢
                  exact many_left (value_left k) (value_good k) t (by simp) h
      · rw [if_neg hb] at h
        cases h
theorem parse_ok {s r : List UInt8} {v : Val} (h : parse s = .ok v r) : ∃ q, value 64 (skip s) = .ok v q ∧ skip q = [] ∧ r = [] ∧ skip s ≠ [] := by
  unfold parse at h
  have g := value_good 64 (skip s)
  cases hv : value 64 (skip s) with
  | no r e => rw [hv] at h; cases h
  | ok x q =>
    rw [hv] at h g
    dsimp only at h
    split at h
    · rename_i hq
      injection h with h1 h2
      subst h1
      refine ⟨q, rfl, hq, h2.symm, ?_⟩
      intro e
      have := g.2.1
      rw [e] at this
      simp at this
    · cases h
/-- A value that is a number begins as one. -/
theorem value_number {k : Nat} {l r : List UInt8} {v : Val} (h : value k l = .ok v r) (hk : v.kind = 3) : number l = .ok v r := by
  cases k with
  | zero =>
    unfold value at h
    cases l with
    | nil => cases h
    | cons c q =>
      dsimp only [List.head?_cons] at h
      split at h <;> cases h
  | succ k =>
    unfold value at h
    cases l with
    | nil => cases h
    | cons c q =>
      dsimp only [List.head?_cons] at h
      split at h
      · unfold read at h
        dsimp only [List.head?_cons] at h
        split at h
        · exact h
        · exfalso
          split at h
          · rw [(word_left _ [] _ _ _ _ h).2] at hk; exact absurd hk (by decide)
          · split at h
            · rw [(word_left _ [] _ _ _ _ h).2] at hk; exact absurd hk (by decide)
            · split at h
              · rw [(word_left _ [] _ _ _ _ h).2] at hk; exact absurd hk (by decide)
              · split at h
                · unfold text at h
                  split at h
                  · cases h
                  · injection h with h1 h2
                    subst h1
                    exact absurd hk (by simp [Val.kind])
                · have kind_made : ∀ (o : Bool) ks vs, (made o ks vs).kind ≠ 3 := by
                    intro o ks vs
                    cases o <;> simp [made, Val.kind]
                  have kind_items : ∀ (n : Nat) (l : List UInt8), l.length = n → ∀ (o : Bool) ks vs x y, items (value k) o ks vs l = .ok x y → x.kind ≠ 3 := by
                    intro n
                    induction n using Nat.strongRecOn with
                    | ind n ih =>
                      intro l hl o ks vs x y h
                      unfold items at h
                      split at h
                      · cases h
                      · split at h
                        · cases h
                        · split at h
                          · injection h with h1 h2
                            rw [← h1]
                            exact kind_made _ _ _
                          · split at h
                            · unfold here at h
                              split at h <;> cases h
                            · split at h
                              · exact ih _ (by omega) _ rfl _ _ _ _ _ h
                              · cases h
                  unfold many at h
                  split at h
                  · injection h with h1 h2
                    rw [← h1] at hk
                    exact kind_made _ _ _ hk
                  · exact kind_items _ _ rfl _ _ _ _ _ h hk
      · cases h
theorem getLast_suffix {l m : List UInt8} {c : UInt8} (hs : m <:+ l) (hm : m ≠ []) (h : l.getLast? = some c) : m.getLast? = some c := by
  obtain ⟨p, rfl⟩ := hs
  rw [List.getLast?_append] at h
  cases hx : m.getLast? with
  | none => exact absurd (List.getLast?_eq_none_iff.1 hx) hm
  | some d => rw [hx] at h; simpa using h
/-- A text whose last byte closes something, cut short anywhere, is no value's. -/
theorem parse_cut {s r : List UInt8} {v : Val} {c : UInt8} (h : parse s = .ok v r) (hl : s.getLast? = some c) (hc : c = 93 ∨ c = 125 ∨ c = 34) {k : Nat} (hk : k < s.length) : ∃ q e, parse (s.take k) = .no q e := by
  have hcb : blank c = false := by rcases hc with rfl | rfl | rfl <;> decide
  have hcn : ¬ numeric c.toNat := by rcases hc with rfl | rfl | rfl <;> decide
  cases hp : parse (s.take k) with
  | no q e => exact ⟨q, e, rfl⟩
  | ok v1 r1 =>
    exfalso
    obtain ⟨q, hv, hq, -, hne⟩ := parse_ok h
    obtain ⟨q1, hv1, hq1, -, hne1⟩ := parse_ok hp
    have hs : s = s.take k ++ s.drop k := (List.take_append_drop k s).symm
    have ht : s.drop k ≠ [] := by
      intro e
      have := congrArg List.length e
      rw [List.length_drop] at this
      simp at this
      omega
    have e2 : skip s = skip (s.take k) ++ s.drop k := by rw [← skip_left _ hne1, ← hs]
    by_cases h3 : v.kind = 3
    · -- a number: its last byte is no closing one
      have g := value_good 64 (skip s)
      rw [hv] at g
      have hn := value_number hv h3
      obtain ⟨-, hr, h0⟩ := number_kind hn
      have le := num_le (skip s)
      have ls := getLast_suffix (skip_suf s) hne hl
      by_cases hq0 : q = []
      · rw [hq0] at hr
        have z : Num.scan (skip s) = (skip s).length := by
          have := congrArg List.length hr
          rw [List.length_drop] at this
          simp at this
          omega
        have hpos : 0 < (skip s).length := List.length_pos_iff.2 hne
        have nn := scan_numeric (skip s) ((skip s).length - 1) (by omega)
        rw [List.getLast?_eq_getElem?] at ls
        unfold Num.nb at nn
        rw [List.getD_eq_getElem?_getD, ls] at nn
        exact hcn nn
      · have lq := getLast_suffix (hr ▸ List.drop_suffix _ _ : q <:+ skip s) hq0 ls
        have := skip_nil.1 hq c (List.mem_of_getLast? lq)
        rw [hcb] at this
        cases this
    · have hk1 : v1.kind = 3 → Stop (q1 ++ s.drop k) := by
        intro h4
        exfalso
        -- then the whole is a number too
        have hn := value_number hv1 h4
        cases hx : skip (s.take k) with
        | nil => exact hne1 hx
        | cons d y =>
          rw [hx] at hn hv1
          have hd : digit d = true := by
            unfold value at hv1
            dsimp only [List.head?_cons] at hv1
            split at hv1
            · unfold read at hv1
              dsimp only [List.head?_cons] at hv1
              split at hv1
              · assumption
              · rename_i hnd
                obtain ⟨-, -, hs0⟩ := number_kind hn
                exfalso
                apply hnd
                have hdg : Num.DigAt (d :: y) (Num.neg0 (d :: y)) := by
                  apply Decidable.byContradiction
                  intro hh
                  exact hs0 (by unfold Num.scan; rw [if_neg hh])
                unfold digit
                unfold Num.neg0 at hdg
                rw [Num.nb_zero] at hdg
                split at hdg
                · rename_i h45
                  have : d = 45 := UInt8.toNat_inj.1 h45
                  simp [this]
                · unfold Num.DigAt at hdg
                  rw [Num.nb_zero] at hdg
                  simp [hdg]
            · cases hv1
          rw [e2, hx, List.cons_append] at hv
          unfold value at hv
          dsimp only [List.head?_cons] at hv
          rw [if_pos (by unfold begins; rw [hd]; simp)] at hv
          unfold read at hv
          dsimp only [List.head?_cons] at hv
          rw [if_pos hd] at hv
          exact h3 (number_kind hv).1
      have hv2 := value_left 64 _ _ (s.drop k) _ hv1 hk1
      rw [← e2, hv] at hv2
      injection hv2 with e3 e4
      have lq := getLast_suffix (List.drop_suffix k s) ht hl
      have : c ∈ q := by rw [e4]; exact List.mem_append.2 (.inr (List.mem_of_getLast? lq))
      have := skip_nil.1 hq c this
      rw [hcb] at this
      cases this
end Go.Proofs.YtlfbnfphocpgeaaGreatDoor.Jdec
namespace Go.Proofs.YtlfbnfphocpgeaaGreatDoor.Kit
open Go.ChangeShapes Go.WideShapes Go.ChangeAt Go.RowKit
theorem own : ownKnob Tryz.prog.godebug = none := by kernel_rfl
theorem laid : laidOutB Tryz.prog = true := by kernel_rfl
section
variable {H : Type} {enc : TypeId × Value → H} {P : Program}
/-- A list of arguments reads, behind a call that left the old heap alone, as it read before. -/
theorem args_stay (hl : laidOutB P = true) {W W' : World} (hB : Below W.heap.size W W') :
    ∀ (ts : List TypeId) (vs : List Value) (ds : List (DataW H)) (ps : List MemPlace),
      (∀ t ∈ ts, P.readableRec t = true ∧ t < P.types.size) → (∀ x ∈ ps, x.block < W.heap.size) →
      DataW.TrodAll enc P W 0 (fun _ => true) true ts vs ds ps → DataW.TrodAll enc P W' 0 (fun b => decide (b < W.heap.size)) true ts vs ds ps
  | [], vs, ds, ps, _, _, h => by
    obtain ⟨rfl, rfl, rfl⟩ := trodAll_nil h
    exact rfl
  | t :: ts, vs, ds, ps, hr, hp, h => by
    obtain ⟨v, vs', d, ds', p, q, rfl, rfl, rfl, h1, h2⟩ := trodAll_cons h
    have ht := hr t (by simp)
    exact ⟨p, q, Below.trod hl ht.1 ht.2 h1 hB (fun x hx => hp x (by simp [hx])),
      args_stay hl hB ts vs' ds' q (fun t' h' => hr t' (by simp [h'])) (fun x hx => hp x (by simp [hx])) h2, rfl⟩
/-- The last step of a law's row: it answered true, and below the old heap nothing has turned. -/
theorem law_done {f : Func} {s : ChangeSpec} {apart : Bool} {W W' : World} {args : Array Value} {ds gs : List (DataW H)} {before : List MemPlace} {tb : TypeId}
    (hl : laidOutB P = true) (hv : s.vars = []) (hfn : s.fn H (ds ++ gs) = { results := [.lit (.bool true)], args := ds }) (hrt : f.resultTypes = #[tb]) (htb : P.underlying tb = some .bool)
    (hr : ∀ t ∈ f.params.toList, P.readableRec t = true ∧ t < P.types.size)
    (hW : DataW.Whole enc P f.params.toList s.vars apart W args.toList ds gs before) (hB : Below W.heap.size W W') :
    s.post enc P f apart true false false W args (.bool true) W' := by
  have hlt : ∀ p ∈ before, p.block < W.heap.size := fun p hp => hW.lt p hp
  have hW0 := hW
  obtain ⟨p, q, hA, hV, rfl, hz, hn⟩ := hW
  rw [hv] at hV
  obtain ⟨rfl, rfl⟩ := trodVars_none hV
  refine ⟨ds, [], p ++ [], [], p, [], hW0, ?_, ?_, ?_, hB.frame _, fun h => by cases h⟩
  · rw [hfn, hrt]
    exact trodAll_mk1 (shut_bool htb true)
  · rw [hfn]
    exact args_stay hl hB _ _ _ _ hr (fun x hx => hlt x (by simp [hx])) hA
  · rw [hv, hfn]
    exact rfl
end
/-- Draws change no block. -/
theorem below_drewN {B : Nat} {a w : World} (h : Below B a w) (n : Nat) : Below B a (w.drewN n) := h.trans ⟨rfl, rfl, rfl, Nat.le_refl _, fun _ _ => rfl⟩
theorem cell_of {w : World} {b : Nat} {c : Array Value} {t : TypeId} {fr : Nat × Nat} (h : w.heap[b]? = some (.cells c t fr)) (i : Nat) : w.cell? ⟨b, i, none⟩ = c[i]? := by simp [World.cell?, h]
theorem free_of {w : World} {b : Nat} {c : Array Value} {t : TypeId} (h : w.heap[b]? = some (.cells c t (0, 0))) (i : Nat) : w.frozen? ⟨b, i, none⟩ = false := by simp [World.frozen?, h]
theorem lt_of_heap {w : World} {b : Nat} {o : Obj} (h : w.heap[b]? = some o) : b < w.heap.size := (Array.getElem?_eq_some_iff.1 h).1
/-- A block of which one cell is stored. -/
theorem set_of {w : World} {b : Nat} {c : Array Value} {t : TypeId} {fr : Nat × Nat} (h : w.heap[b]? = some (.cells c t fr)) (i : Nat) (v : Value) : (w.setCell ⟨b, i, none⟩ v).heap[b]? = some (.cells (c.setIfInBounds i v) t fr) := by
  obtain ⟨hlt, hk⟩ := Array.getElem?_eq_some_iff.1 h
  show (w.heap.modify b _)[b]? = _
  rw [Array.getElem?_eq_getElem (by rw [Array.size_modify]; exact hlt), Array.getElem_modify_self, hk]
  rfl
/-- A new block leaves the others. -/
theorem new_of {w : World} {b : Nat} {x : Obj} (h : w.heap[b]? = some x) (o : Obj) : (w.alloc o).heap[b]? = some x := (Below.heap_alloc _ _ _ (lt_of_heap h)).trans h
theorem wf16 {a : Int} (h : (Lit.int .u16 a).wf = true) : 0 ≤ a ∧ a ≤ 65535 := by
  simp [Lit.wf, IntKind.min, IntKind.max, IntKind.signed, IntKind.bits] at h
  omega
end Go.Proofs.YtlfbnfphocpgeaaGreatDoor.Kit
namespace Go.Proofs.YtlfbnfphocpgeaaGreatDoor.Byt
open Go.RowKit Kit Go.ChangeShapes Go.WideShapes
def bytesV (l : List Nat) : List Value := l.map fun x : Nat => .int .u8 (x : Int)
/-- The slice v holds the bytes l. -/
def Bs (w : World) (v : Value) (l : List Nat) : Prop :=
  (∀ b ∈ l, b < 256) ∧ ∃ a c, v = .slice a l.length c ∧ l.length ≤ c ∧
    (l = [] ∨ ∃ g off, a = some ⟨g, off, none⟩ ∧ g < w.heap.size ∧ ∀ (i x : Nat), l[i]? = some x → w.cell? ⟨g, off + i, none⟩ = some (.int .u8 (x : Int)))
theorem Bs.below {w w' : World} {v : Value} {l : List Nat} (h : Bs w v l) (b : Below w.heap.size w w') : Bs w' v l := by
  obtain ⟨hb, a, c, rfl, hc, h⟩ := h
  refine ⟨hb, a, c, rfl, hc, ?_⟩
  rcases h with h | ⟨g, off, ha, hg, hx⟩
  · exact .inl h
  · exact .inr ⟨g, off, ha, Nat.lt_of_lt_of_le hg b.size, fun i x hi => (b.cell (p := ⟨g, off + i, none⟩) hg).trans (hx i x hi)⟩
theorem Bs.nil (w : World) : Bs w (.slice none 0 0) [] := ⟨by simp, none, 0, rfl, Nat.le_refl _, .inl rfl⟩
/-- The first m of them: 'b[:m]'. -/
theorem Bs.take {w : World} {a : Option Addr} {n c : Nat} {l : List Nat} (h : Bs w (.slice a n c) l) {m : Nat} (hm : m ≤ l.length) : Bs w (.slice a m c) (l.take m) := by
  obtain ⟨hb, a', c', he, hc, h⟩ := h
  injection he with e1 e2 e3
  subst e1; subst e3
  refine ⟨fun b hx => hb b (List.mem_of_mem_take hx), a, c, by rw [List.length_take, Nat.min_eq_left hm], by rw [List.length_take]; omega, ?_⟩
  rcases h with h | ⟨g, off, ha, hg, hx⟩
  · exact .inl (by rw [h]; simp)
  · refine .inr ⟨g, off, ha, hg, fun i x hi => hx i x ?_⟩
    rw [List.getElem?_take] at hi
    split at hi
    · exact hi
    · cases hi
/-- Those behind the first m: 'b[m:]' (of a slice that is not nil). -/
theorem Bs.drop {w : World} {g off n c : Nat} {l : List Nat} (h : Bs w (.slice (some ⟨g, off, none⟩) n c) l) {m : Nat} (hm : m ≤ l.length) : Bs w (.slice (some ⟨g, off + m, none⟩) (n - m) (c - m)) (l.drop m) := by
  obtain ⟨hb, a', c', he, hc, h⟩ := h
  injection he with e1 e2 e3
  subst e1; subst e2; subst e3
  refine ⟨fun b hx => hb b (List.mem_of_mem_drop hx), _, _, by rw [List.length_drop], by rw [List.length_drop]; omega, ?_⟩
  rcases h with h | ⟨g', off', ha, hg, hx⟩
  · exact .inl (by rw [h]; simp)
  · injection ha with ha
    injection ha with h1 h2
    subst h1; subst h2
    refine .inr ⟨g, off + m, rfl, hg, fun i x hi => ?_⟩
    rw [List.getElem?_drop] at hi
    have := hx (m + i) x hi
    rwa [← Nat.add_assoc] at this
/-- 'b[m:]', as the walk spells it: of any slice; and where the capacity ends there. -/
theorem Bs.rest {w : World} {a : Option Addr} {n c : Nat} {l : List Nat} (h : Bs w (.slice a n c) l) {m : Nat} (hm : m ≤ l.length) : Bs w (.slice (Option.map (fun x => x.add m) a) (n - m) (c - m)) (l.drop m) := by
  cases a with
  | none =>
    obtain ⟨hb, a', c', he, hc, h⟩ := h
    injection he with e1 e2 e3
    subst e1; subst e2; subst e3
    refine ⟨fun b hx => hb b (List.mem_of_mem_drop hx), _, _, by rw [List.length_drop], by rw [List.length_drop]; omega, ?_⟩
    rcases h with h | ⟨g', off', ha, _⟩
    · exact .inl (by rw [h]; simp)
    · cases ha
  | some ad =>
    by_cases hl : l = []
    · subst hl
      obtain ⟨_, a', c', he, hc, _⟩ := h
      injection he with e1 e2 e3
      subst e2; subst e3
      exact ⟨by simp, Option.map (fun x => x.add m) (some ad), c - m, by simp, by simp, .inl (by simp)⟩
    · obtain ⟨g, off, ha⟩ : ∃ g off, some ad = some ⟨g, off, none⟩ := by
        obtain ⟨_, a', c', he, _, h'⟩ := id h
        injection he with e1 _ _
        rcases h' with h' | ⟨g, off, h', _⟩
        · exact absurd h' hl
        · exact ⟨g, off, e1.trans h'⟩
      injection ha with ha
      subst ha
      have := h.drop hm
      rw [← Addr.add_lit g off m] at this
      exact this
/-- A store into one block leaves the others. -/
theorem grown_set (W : World) (b i : Nat) (v : Value) : W.grownBy (W.setCell ⟨b, i, none⟩ v) (some b) :=
  ⟨rfl, rfl, rfl, by show W.heap.size ≤ (W.heap.modify b _).size; rw [Array.size_modify]; exact Nat.le_refl _, fun k _ hk => Below.heap_setCell W ⟨b, i, none⟩ v k (fun e => hk (by rw [e]))⟩
/-- A slice that a composite literal lays. -/
theorem bs_lit {w : World} {g : Nat} {cs : Array Value} {t : TypeId} {fr : Nat × Nat} {l : List Nat} (h : w.heap[g]? = some (.cells cs t fr)) (hc : cs.toList = bytesV l) (hb : ∀ b ∈ l, b < 256) : Bs w (.slice (some ⟨g, 0, none⟩) l.length l.length) l := by
  refine ⟨hb, _, _, rfl, Nat.le_refl _, .inr ⟨g, 0, rfl, lt_of_heap h, fun i x hi => ?_⟩⟩
  rw [Nat.zero_add, cell_of h, ← Array.getElem?_toList, hc]
  simp [bytesV, hi]
/-- What a slice holds stays where another block is written. -/
theorem Bs.grown {w w' : World} {g off n c : Nat} {l : List Nat} {row : Option Nat} (h : Bs w (.slice (some ⟨g, off, none⟩) n c) l) (hg : w.grownBy w' row) (hne : row ≠ some g) : Bs w' (.slice (some ⟨g, off, none⟩) n c) l := by
  obtain ⟨hb, a, c', he, hc, h⟩ := h
  injection he with e1 e2 e3
  subst e1; subst e3
  refine ⟨hb, _, c, by rw [e2], hc, ?_⟩
  rcases h with h | ⟨g', off', ha, hlt, hx⟩
  · exact .inl h
  · injection ha with ha
    injection ha with h1 h2
    subst h1; subst h2
    refine .inr ⟨g, off, rfl, Nat.lt_of_lt_of_le hlt hg.size, fun i x hi => ?_⟩
    rw [World.cell?_of_block (a := ⟨g, off + i, none⟩) (hg.block g hlt (fun e => hne e.symm))]
    exact hx i x hi
end Go.Proofs.YtlfbnfphocpgeaaGreatDoor.Byt
namespace Go.Proofs.YtlfbnfphocpgeaaGreatDoor.Byt
open Go.RowKit Kit
/-- The text of these bytes. -/
def textOf (l : List Nat) : ByteArray := ⟨(l.map UInt8.ofNat).toArray⟩
set_option maxRecDepth 100000 in
theorem convert_text {w : World} {a : Option Addr} {n c : Nat} {l : List Nat} (h : Bs w (.slice a n c) l) : (convert 60 9 (.slice a n c)).run Tryz.prog w = .ok (.string (textOf l)) w := by
  obtain ⟨hb, a', c', he, _, h⟩ := h
  injection he with e1 e2 e3
  subst e1; subst e2
  have hlen : (l.map UInt8.ofNat).length = l.length := by simp
  cases a with
  | none =>
    have hl : l = [] := by
      rcases h with h | ⟨_, _, ha, _⟩
      · exact h
      · cases ha
    subst hl
    exact Lib.run_convert_nil_bytes w 60 9 5 c Tryz.underlying60 Tryz.underlying5 Tryz.underlying9
  | some ad =>
    have := run_convert_bytes_back (P := Tryz.prog) w 60 9 5 ad c (l.map UInt8.ofNat) Tryz.underlying60 Tryz.underlying5 Tryz.underlying9 (fun j hj => by
      rw [hlen] at hj
      rcases h with h | ⟨g, off, ha, _, hx⟩
      · rw [h] at hj; simp at hj
      · injection ha with ha
        subst ha
        rw [Addr.add_lit, hx j l[j] (List.getElem?_eq_getElem hj)]
        have hlt := hb l[j] (List.getElem_mem hj)
        simp
        omega)
    rw [hlen] at this
    exact this
end Go.Proofs.YtlfbnfphocpgeaaGreatDoor.Byt
namespace Go.Proofs.YtlfbnfphocpgeaaGreatDoor.Txt
open Go.RowKit Kit Utf
/-- A text as a value. -/
def txt (l : List UInt8) : ByteArray := ⟨l.toArray⟩
theorem txt_size (l : List UInt8) : (txt l).size = l.length := by simp [txt, ByteArray.size]
theorem txt_data (s : ByteArray) : s = txt s.data.toList := by simp [txt]
theorem txt_list (l : List UInt8) : (txt l).data.toList = l := by simp [txt]
theorem nb_past {l : List UInt8} {i : Nat} (h : l.length ≤ i) : nb l i = 0 := by
  unfold nb
  rw [List.getD_eq_getElem?_getD, List.getElem?_eq_none h]
  rfl
theorem nb_get {l : List UInt8} {i : Nat} (h : i < l.length) : nb l i = (l[i]).toNat := by
  unfold nb
  rw [List.getD_eq_getElem?_getD, List.getElem?_eq_getElem h]
  rfl
theorem nb_ne {l : List UInt8} {i x : Nat} (h : nb l i = x) (h0 : x ≠ 0) : i < l.length := by
  by_cases hl : i < l.length
  · exact hl
  · rw [nb_past (by omega)] at h
    omega
/-- 's[i]'. -/
theorem idx {l : List UInt8} {i : Nat} (h : i < l.length) (wx : World) : (Instr.index 9 (.string (txt l)) (.int .i64 (i : Int))).run Tryz.prog wx = .ok (.int .u8 (nb l i : Int)) wx := by
  have hs := txt_size l
  rw [run_index_string wx 9 (txt l) .i64 i Tryz.underlying9, dif_pos ⟨by omega, by omega⟩]
  congr 3
  unfold nb
  rw [List.getD_eq_getElem?_getD, List.getElem?_eq_getElem h]
  rfl
theorem txt_extract (l : List UInt8) (i j : Nat) : (txt l).extract i j = txt ((l.drop i).take (j - i)) := by
  apply ByteArray.ext
  apply Array.ext'
  rw [ByteArray.data_extract, Array.toList_extract, List.extract_eq_take_drop]
  rfl
/-- 's[:k]', 's[k:]', 's[i:j]'. -/
theorem slH {l : List UInt8} {z : Int} {k : Nat} (hz : z = (k : Int)) (hk : k ≤ l.length) (wx : World) : (Instr.slice 9 (.string (txt l)) none (some (.int .i64 z)) none).run Tryz.prog wx = .ok (.string (txt (l.take k))) wx := by
  subst hz
  have hs := txt_size l
  rw [run_slice_string_h (P := Tryz.prog) wx 9 (txt l) Tryz.underlying9 .i64 k (by omega) (by omega), txt_extract]
  simp
theorem slL {l : List UInt8} {z : Int} {k : Nat} (hz : z = (k : Int)) (hk : k ≤ l.length) (wx : World) : (Instr.slice 9 (.string (txt l)) (some (.int .i64 z)) none none).run Tryz.prog wx = .ok (.string (txt (l.drop k))) wx := by
  subst hz
  have hs := txt_size l
  rw [run_slice_string_l (P := Tryz.prog) wx 9 (txt l) Tryz.underlying9 .i64 k (by omega) (by omega), txt_extract]
  rw [hs, Int.toNat_natCast, List.take_of_length_le (by rw [List.length_drop]; omega)]
theorem slM {l : List UInt8} {y z : Int} {i j : Nat} (hy : y = (i : Int)) (hz : z = (j : Int)) (hi : i ≤ j) (hj : j ≤ l.length) (wx : World) : (Instr.slice 9 (.string (txt l)) (some (.int .i64 y)) (some (.int .i64 z)) none).run Tryz.prog wx = .ok (.string (txt ((l.drop i).take (j - i)))) wx := by
  subst hy; subst hz
  have hs := txt_size l
  rw [run_slice_string (P := Tryz.prog) wx 9 (txt l) .i64 .i64 i j Tryz.underlying9 (by omega) (by omega) (by omega), txt_extract]
  simp
theorem add_txt (a b : List UInt8) : txt a ++ txt b = txt (a ++ b) := by
  apply ByteArray.ext
  simp [txt]
/-- '+' of two texts: its size is an int. -/
theorem add_fit {a b : List UInt8} (ha : a.length < 1000000000000) (hb : b.length < 1000000000000) : ¬ (9223372036854775807 < (txt a).size + (txt b).size) := by
  have h1 := txt_size a
  have h2 := txt_size b
  omega
/-- '+' of two texts, what it holds and that it fits, with the second one's bytes under a name of their own. -/
theorem add_lit {a b c : List UInt8} {s : ByteArray} (hs : s = txt b) (hc : a ++ b = c) (ha : a.length < 1000000000000) (hb : b.length < 1000000000000) : ¬ (9223372036854775807 < (txt a).size + s.size) ∧ txt a ++ s = txt c := by
  subst hs; subst hc
  exact ⟨add_fit ha hb, add_txt a b⟩
theorem txt_ne {a b : List UInt8} (h : a ≠ b) : ((txt a).toList == (txt b).toList) = false := by
  unfold txt
  rw [ByteArray.toList_mk, ByteArray.toList_mk]
  simpa using h
/-- One byte, as a text; behind a call that left it alone; behind a draw. -/
theorem one_text_after {W w1 : World} {x : Int} {g : Nat} (k : Below W.heap.size W w1) (h : W.heap[g]? = some (.cells #[.int .u8 x] 5 (0, 0))) (m : Nat) (hm : m < 256) (e : x = (m : Int)) :
    (convert 60 9 (.slice (some ⟨g, 0, none⟩) 1 1)).run Tryz.prog w1 = .ok (.string (txt [UInt8.ofNat m])) w1 := by
  subst e
  have hx : Byt.Bs W (.slice (some ⟨g, 0, none⟩) [m].length [m].length) [m] := Byt.bs_lit h rfl (by simpa using hm)
  exact Byt.convert_text (hx.below k)
theorem one_text (w : World) (x : Int) (m : Nat) (hm : m < 256) (e : x = (m : Int)) : (convert 60 9 (.slice (some ⟨w.heap.size, 0, none⟩) 1 1)).run Tryz.prog (w.alloc (.cells #[.int .u8 x] 5)) = .ok (.string (txt [UInt8.ofNat m])) (w.alloc (.cells #[.int .u8 x] 5)) :=
  one_text_after (Below.refl _ _) (World.alloc_heap_new w _) m hm e
/-- A block of three cells. -/
theorem three {W : World} {g : Nat} {a b c : Value} {t : TypeId} {fr : Nat × Nat} (h : W.heap[g]? = some (.cells #[a, b, c] t fr)) : W.cell? ⟨g, 0, none⟩ = some a ∧ W.cell? ⟨g, 1, none⟩ = some b ∧ W.cell? ⟨g, 2, none⟩ = some c :=
  ⟨cell_of h 0, cell_of h 1, cell_of h 2⟩
theorem below_set3 {w W : World} {g : Nat} (h : Below w.heap.size w W) (hg : w.heap.size ≤ g) (a b c : Value) : Below w.heap.size w (((W.setCell ⟨g, 0, none⟩ a).setCell ⟨g, 1, none⟩ b).setCell ⟨g, 2, none⟩ c) :=
  ((h.setCell (p := ⟨g, 0, none⟩) hg a).setCell (p := ⟨g, 1, none⟩) hg b).setCell (p := ⟨g, 2, none⟩) hg c
end Go.Proofs.YtlfbnfphocpgeaaGreatDoor.Txt
namespace Go.Proofs.YtlfbnfphocpgeaaGreatDoor.Jdec
open Go.RowKit Kit Txt
open Utf (nb)
/-- Where blanks end. -/
def skipAt (l : List UInt8) (i : Nat) : Nat := l.length - (skip (l.drop i)).length
theorem skip_on {l : List UInt8} {q : Nat} (h : q < l.length) (hb : nb l q = 9 ∨ nb l q = 10 ∨ nb l q = 13 ∨ nb l q = 32) : skip (l.drop q) = skip (l.drop (q + 1)) := by
  rw [nb_get h] at hb
  have : blank l[q] = true := by
    unfold blank
    rw [decide_eq_true_eq]
    rcases hb with hb | hb | hb | hb
    · exact .inl (UInt8.toNat_inj.1 hb)
    · exact .inr (.inl (UInt8.toNat_inj.1 hb))
    · exact .inr (.inr (.inl (UInt8.toNat_inj.1 hb)))
    · exact .inr (.inr (.inr (UInt8.toNat_inj.1 hb)))
  unfold skip
  rw [List.drop_eq_getElem_cons h, List.dropWhile_cons, if_pos this]
theorem skip_stop {l : List UInt8} {q : Nat} (hb : nb l q ≠ 9 ∧ nb l q ≠ 10 ∧ nb l q ≠ 13 ∧ nb l q ≠ 32) : skip (l.drop q) = l.drop q := by
  by_cases h : q < l.length
  · rw [nb_get h] at hb
    have : blank l[q] = false := by
      unfold blank
      rw [decide_eq_false_iff_not]
      rintro (e | e | e | e) <;> (rw [e] at hb; revert hb; decide)
    unfold skip
    rw [List.drop_eq_getElem_cons h, List.dropWhile_cons, if_neg (by rw [this]; decide)]
  · rw [List.drop_eq_nil_of_le (by omega)]
    rfl
theorem skipAt_le (l : List UInt8) (i : Nat) : skipAt l i ≤ l.length := Nat.sub_le _ _
theorem skipAt_drop {l : List UInt8} {i : Nat} : l.drop (skipAt l i) = skip (l.drop i) := by
  have hs : skip (l.drop i) <:+ l := (skip_suf _).trans (List.drop_suffix _ _)
  exact (List.suffix_iff_eq_drop.1 hs).symm
set_option maxRecDepth 100000 in
set_option maxHeartbeats 8000000 in
theorem rblanks_any {w : World} {l : List UInt8} {i : Nat} (hl : l.length < 100000) (hi : i ≤ l.length) :
    Calls Tryz.prog 23 #[.string (txt l), .int .i64 i] w fun e w' => e = .returned (.int .i64 (skipAt l i)) ∧ w' = w := by
  have hs := txt_size l
  go_enter Tryz.func23, Tryz.ntmps23
  go_wp2_with fail
  go_loopw [1] (fun a wr => ∃ q : Nat, a = .int .i64 q ∧ wr = w ∧ q ≤ l.length ∧ skip (l.drop i) = skip (l.drop q)) (fun a _ => l.length - (intOf a).toNat)
  case atStart => exact ⟨i, rfl, rfl, hi, rfl⟩
  case round =>
    obtain ⟨q, rfl, rfl, hq, hk⟩ := hrel
    have hwq : IntKind.i64.wrap ((q : Int) + 1) = (q : Int) + 1 := by simp only [IntKind.wrap, IntKind.signed, IntKind.bits]; simp; omega
    by_cases hlt : q < l.length
    · have hlt1 : decide (q < l.length) = true := decide_eq_true hlt
      have hlt' : (q : Int) < (l.length : Int) := by omega
      have hix := idx hlt
      have on := fun h => skip_on (l := l) (q := q) hlt h
      have off := fun h => skip_stop (l := l) (q := q) h
      generalize nb l q = x at *
      by_cases hb : x = 9 ∨ x = 10 ∨ x = 13 ∨ x = 32
      · have HK := Lib.hid (hk.trans (on hb))
        clear on off hk
        rcases hb with rfl | rfl | rfl | rfl
        all_goals
          go_wp2_with fail
          go_roundw
          case rel => exact ⟨q + 1, by go_num, by first | rfl | assumption | simp, by omega, HK.out⟩
          case measure => simp [intOf]; omega
      · have h9 : ((x : Int) == 9) = false := by simp; omega
        have h10 : ((x : Int) == 10) = false := by simp; omega
        have h13 : ((x : Int) == 13) = false := by simp; omega
        have h32 : ((x : Int) == 32) = false := by simp; omega
        have hk' := hk.trans (off (by omega))
        have : skipAt l i = q := by unfold skipAt; rw [hk', List.length_drop]; omega
        have HC := Lib.hid this
        clear on off hk hk' this hb
        go_wp2_with fail
        exact bodyPost_ret (v := .int .i64 q) (by simp [results, Tryz.results23, go_sem, *]) rfl ⟨by rw [HC.out], rfl⟩
    · have hlt1 : decide (q < l.length) = false := decide_eq_false hlt
      have hk' := hk.trans (skip_stop (by rw [nb_past (by omega)]; omega))
      have : skipAt l i = q := by unfold skipAt; rw [hk', List.length_drop]; omega
      have HC := Lib.hid this
      clear hk hk' this
      go_wp2_with fail
      exact bodyPost_ret (v := .int .i64 q) (by simp [results, Tryz.results23, go_sem, *]) rfl ⟨by rw [HC.out], rfl⟩
end Go.Proofs.YtlfbnfphocpgeaaGreatDoor.Jdec
namespace Go.Proofs.YtlfbnfphocpgeaaGreatDoor.Jdec
open Go.RowKit Kit Txt
open Utf (nb)
/-- An error at a place, as a struct. -/
def badV (at' e : Int) : Value := .agg #[.int .i64 0, .bool false, .bool false, .string ⟨#[]⟩, .int .i64 0, .string ⟨#[]⟩, .slice none 0 0, .slice none 0 0, .int .i64 0, .int .i64 at', .int .i64 e]
set_option maxRecDepth 100000 in
set_option maxHeartbeats 8000000 in
theorem rbad_any {w : World} {p e : Int} : Calls Tryz.prog 24 #[.int .i64 p, .int .i64 e] w fun r w' => r = .returned (badV p e) ∧ Below w.heap.size w w' := by
  go_enter Tryz.func24, Tryz.ntmps24
  go_wp2_with fail
  refine bodyPost_ret (v := badV p e) (by simp [results, Tryz.results24, go_sem, badV]) rfl ⟨rfl, (Below.refl _ w).alloc (Nat.le_refl _) _⟩
theorem eleven {W : World} {g : Nat} {c0 c1 c2 c3 c4 c5 c6 c7 c8 c9 c10 : Value} {t : TypeId} {fr : Nat × Nat} (h : W.heap[g]? = some (.cells #[c0, c1, c2, c3, c4, c5, c6, c7, c8, c9, c10] t fr)) :
    W.cell? ⟨g, 0, none⟩ = some c0 ∧ W.cell? ⟨g, 1, none⟩ = some c1 ∧ W.cell? ⟨g, 2, none⟩ = some c2 ∧ W.cell? ⟨g, 3, none⟩ = some c3 ∧ W.cell? ⟨g, 4, none⟩ = some c4 ∧ W.cell? ⟨g, 5, none⟩ = some c5 ∧
    W.cell? ⟨g, 6, none⟩ = some c6 ∧ W.cell? ⟨g, 7, none⟩ = some c7 ∧ W.cell? ⟨g, 8, none⟩ = some c8 ∧ W.cell? ⟨g, 9, none⟩ = some c9 ∧ W.cell? ⟨g, 10, none⟩ = some c10 := by
  simp [World.cell?, h]
theorem set11 {W : World} {g : Nat} {c0 c1 c2 c3 c4 c5 c6 c7 c8 c9 c10 : Value} {t : TypeId} {fr : Nat × Nat} (h : W.heap[g]? = some (.cells #[c0, c1, c2, c3, c4, c5, c6, c7, c8, c9, c10] t fr)) (v0 v1 v2 v3 v4 v5 v6 v7 v8 v9 v10 : Value) :
    (((((((((((W.setCell ⟨g, 0, none⟩ v0).setCell ⟨g, 1, none⟩ v1).setCell ⟨g, 2, none⟩ v2).setCell ⟨g, 3, none⟩ v3).setCell ⟨g, 4, none⟩ v4).setCell ⟨g, 5, none⟩ v5).setCell ⟨g, 6, none⟩ v6).setCell ⟨g, 7, none⟩ v7).setCell ⟨g, 8, none⟩ v8).setCell ⟨g, 9, none⟩ v9).setCell ⟨g, 10, none⟩ v10).heap[g]? = some (.cells #[v0, v1, v2, v3, v4, v5, v6, v7, v8, v9, v10] t fr) := by
  simpa using (set_of (set_of (set_of (set_of (set_of (set_of (set_of (set_of (set_of (set_of (set_of h 0 v0) 1 v1) 2 v2) 3 v3) 4 v4) 5 v5) 6 v6) 7 v7) 8 v8) 9 v9) 10 v10)
theorem below11 {w W : World} {g : Nat} (h : Below w.heap.size w W) (hg : w.heap.size ≤ g) (v0 v1 v2 v3 v4 v5 v6 v7 v8 v9 v10 : Value) : Below w.heap.size w (((((((((((W.setCell ⟨g, 0, none⟩ v0).setCell ⟨g, 1, none⟩ v1).setCell ⟨g, 2, none⟩ v2).setCell ⟨g, 3, none⟩ v3).setCell ⟨g, 4, none⟩ v4).setCell ⟨g, 5, none⟩ v5).setCell ⟨g, 6, none⟩ v6).setCell ⟨g, 7, none⟩ v7).setCell ⟨g, 8, none⟩ v8).setCell ⟨g, 9, none⟩ v9).setCell ⟨g, 10, none⟩ v10) := (((((((((((h.setCell (p := ⟨g, 0, none⟩) hg v0).setCell (p := ⟨g, 1, none⟩) hg v1).setCell (p := ⟨g, 2, none⟩) hg v2).setCell (p := ⟨g, 3, none⟩) hg v3).setCell (p := ⟨g, 4, none⟩) hg v4).setCell (p := ⟨g, 5, none⟩) hg v5).setCell (p := ⟨g, 6, none⟩) hg v6).setCell (p := ⟨g, 7, none⟩) hg v7).setCell (p := ⟨g, 8, none⟩) hg v8).setCell (p := ⟨g, 9, none⟩) hg v9).setCell (p := ⟨g, 10, none⟩) hg v10)
/-- What can't go on at a place: the error. -/
def hereE (l : List UInt8) (q : Nat) : Int := if l.length ≤ q then 2 else 3
set_option maxRecDepth 100000 in
set_option maxHeartbeats 8000000 in
theorem rhere_any {w : World} {l : List UInt8} {q : Nat} : Calls Tryz.prog 58 #[.string (txt l), .int .i64 q] w fun r w' => r = .returned (badV q (hereE l q)) ∧ Below w.heap.size w w' := by
  have hs := txt_size l
  have hA := World.alloc_heap_new w (.cells #[.int .i64 0, .bool false, .bool false, .string ⟨#[]⟩, .int .i64 0, .string ⟨#[]⟩, .slice none 0 0, .slice none 0 0, .int .i64 0, .int .i64 0, .int .i64 0] 31)
  have bA : Below w.heap.size w (w.alloc (.cells #[.int .i64 0, .bool false, .bool false, .string ⟨#[]⟩, .int .i64 0, .string ⟨#[]⟩, .slice none 0 0, .slice none 0 0, .int .i64 0, .int .i64 0, .int .i64 0] 31)) := (Below.refl _ w).alloc (Nat.le_refl _) _
  have hb := fun (wx : World) (x : Int) => rbad_any (w := wx) (p := q) (e := x)
  simp only [badV] at hb
  by_cases h : l.length ≤ q
  · have he : hereE l q = 2 := if_pos h
    have HC := Lib.hid he
    have h1 : (l.length : Int) ≤ (q : Int) := by omega
    have h2 : decide (l.length ≤ q) = true := decide_eq_true h
    clear he
    go_enter Tryz.func58, Tryz.ntmps58
    go_wp2_with fail
    refine (hb _ 2).mono ?_
    rintro e w2 ⟨rfl, k2⟩
    have hA2 := (k2.block _ (lt_of_heap hA)).trans hA
    have b2 := bA.trans (k2.mono bA.size)
    have h9 := set11 hA2 (.int .i64 0) (.bool false) (.bool false) (.string ⟨#[]⟩) (.int .i64 0) (.string ⟨#[]⟩) (.slice none 0 0) (.slice none 0 0) (.int .i64 0) (.int .i64 q) (.int .i64 2)
    have b9 := below11 b2 (Nat.le_refl _) (.int .i64 0) (.bool false) (.bool false) (.string ⟨#[]⟩) (.int .i64 0) (.string ⟨#[]⟩) (.slice none 0 0) (.slice none 0 0) (.int .i64 0) (.int .i64 q) (.int .i64 2)
    obtain ⟨d0, d1, d2, d3, d4, d5, d6, d7, d8, d9, d10⟩ := eleven h9
    obtain ⟨c0, c1, c2, c3, c4, c5, c6, c7, c8, c9, c10⟩ := eleven hA2
    have qf := free_of hA2
    clear h9 hA hA2
    go_wp2_with fail
    refine bodyPost_ret (v := badV q 2) (by simp [results, Tryz.results58, go_sem, badV, d0, d1, d2, d3, d4, d5, d6, d7, d8, d9, d10]) rfl ⟨by rw [HC.out], b9⟩
  · have he : hereE l q = 3 := if_neg h
    have HC := Lib.hid he
    have h1 : ¬ ((l.length : Int) ≤ (q : Int)) := by omega
    have h2 : decide (l.length ≤ q) = false := decide_eq_false h
    clear he
    go_enter Tryz.func58, Tryz.ntmps58
    go_wp2_with fail
    refine (hb _ 3).mono ?_
    rintro e w2 ⟨rfl, k2⟩
    have hA2 := (k2.block _ (lt_of_heap hA)).trans hA
    have b2 := bA.trans (k2.mono bA.size)
    have h9 := set11 hA2 (.int .i64 0) (.bool false) (.bool false) (.string ⟨#[]⟩) (.int .i64 0) (.string ⟨#[]⟩) (.slice none 0 0) (.slice none 0 0) (.int .i64 0) (.int .i64 q) (.int .i64 3)
    have b9 := below11 b2 (Nat.le_refl _) (.int .i64 0) (.bool false) (.bool false) (.string ⟨#[]⟩) (.int .i64 0) (.string ⟨#[]⟩) (.slice none 0 0) (.slice none 0 0) (.int .i64 0) (.int .i64 q) (.int .i64 3)
    obtain ⟨d0, d1, d2, d3, d4, d5, d6, d7, d8, d9, d10⟩ := eleven h9
    obtain ⟨c0, c1, c2, c3, c4, c5, c6, c7, c8, c9, c10⟩ := eleven hA2
    have qf := free_of hA2
    clear h9 hA hA2
    go_wp2_with fail
    refine bodyPost_ret (v := badV q 3) (by simp [results, Tryz.results58, go_sem, badV, d0, d1, d2, d3, d4, d5, d6, d7, d8, d9, d10]) rfl ⟨by rw [HC.out], b9⟩
end Go.Proofs.YtlfbnfphocpgeaaGreatDoor.Jdec
namespace Go.Proofs.YtlfbnfphocpgeaaGreatDoor.Num
/-- A whole number's digits. -/
def digits (n : Nat) : List UInt8 := if n < 10 then [UInt8.ofNat (48 + n)] else digits (n / 10) ++ [UInt8.ofNat (48 + n % 10)]
termination_by n
decreasing_by omega
theorem valD_snoc (d : List UInt8) (c : UInt8) : valD (d ++ [c]) = valD d * 10 + (c.toNat - 48) := by simp [valD]
def noughts (n : Nat) : List UInt8 := List.replicate n 48
theorem noughts_len (n : Nat) : (noughts n).length = n := List.length_replicate
/-- The print. -/
def print (n : Dec) : List UInt8 :=
  if ¬ Right n then []
  else if n.dig = [] then [48]
  else if 20 < n.exp then negT n.neg ++ (n.dig ++ (101 :: digits n.exp.toNat))
  else if n.exp < -20 then negT n.neg ++ (n.dig ++ (101 :: 45 :: digits (-n.exp).toNat))
  else if 0 ≤ n.exp then negT n.neg ++ (n.dig ++ noughts n.exp.toNat)
  else if -n.exp < n.dig.length then negT n.neg ++ (n.dig.take (n.dig.length - (-n.exp).toNat) ++ (46 :: n.dig.drop (n.dig.length - (-n.exp).toNat)))
  else negT n.neg ++ (48 :: 46 :: (noughts ((-n.exp).toNat - n.dig.length) ++ n.dig))
theorem text_ne (n : Bool) {I F : List UInt8} {x : Option (UInt8 × List UInt8 × List UInt8)} (h : Parts I F x) : text n I F x ≠ [] := by
  intro e
  have := congrArg List.length e
  obtain ⟨c, I', rfl⟩ := List.exists_cons_of_ne_nil h.ne
  simp [text] at this
end Go.Proofs.YtlfbnfphocpgeaaGreatDoor.Num
namespace Go.Proofs.YtlfbnfphocpgeaaGreatDoor.Num
open Go.RowKit Kit
/-- A text as a value. -/
def txt (l : List UInt8) : ByteArray := ⟨l.toArray⟩
theorem txt_size (l : List UInt8) : (txt l).size = l.length := by simp [txt, ByteArray.size]
theorem txt_data (s : ByteArray) : s = txt s.data.toList := by simp [txt]
/-- 's[i]'. -/
theorem idx {l : List UInt8} {i : Nat} (h : i < l.length) (wx : World) : (Instr.index 9 (.string (txt l)) (.int .i64 (i : Int))).run Tryz.prog wx = .ok (.int .u8 (nb l i : Int)) wx := by
  have hs := txt_size l
  rw [run_index_string wx 9 (txt l) .i64 i Tryz.underlying9, dif_pos ⟨by omega, by omega⟩]
  congr 3
  unfold nb
  rw [List.getD_eq_getElem?_getD, List.getElem?_eq_getElem h]
  rfl
set_option maxRecDepth 100000 in
theorem digit_any {w : World} {l : List UInt8} {i : Nat} (_hl : l.length < 1000000000) :
    Calls Tryz.prog 85 #[.string (txt l), .int .i64 i] w fun e w' => e = .returned (.bool (decide (DigAt l i))) ∧ w' = w := by
  have hs := txt_size l
  by_cases h : i < l.length
  · have h1 := idx h
    have hlt : (i : Int) < (l.length : Int) := by omega
    generalize hx : nb l i = x at *
    have hd : decide (DigAt l i) = decide (48 ≤ x ∧ x ≤ 57) := decide_eq_decide.2 (by unfold DigAt; rw [hx])
    rw [hd]
    generalize (txt l) = s at *
    clear hx hd
    by_cases c1 : 48 ≤ x
    · have c1' : decide ((48 : Int) ≤ (x : Int)) = true := by simp; omega
      by_cases c2 : x ≤ 57
      · have c2' : decide ((x : Int) ≤ 57) = true := by simp; omega
        go_enter Tryz.func85, Tryz.ntmps85
        go_wp2_with fail
        go_ret
        simp [c1, c2]
      · have c2' : decide ((x : Int) ≤ 57) = false := by simp; omega
        go_enter Tryz.func85, Tryz.ntmps85
        go_wp2_with fail
        go_ret
        simp [c1, c2]
    · have c1' : decide ((48 : Int) ≤ (x : Int)) = false := by simp; omega
      go_enter Tryz.func85, Tryz.ntmps85
      go_wp2_with fail
      go_ret
      simp [c1]
  · have hlt : decide ((i : Int) < (l.length : Int)) = false := by simp; omega
    have hd : decide (DigAt l i) = false := by simp; intro e; exact h (digAt_lt e)
    rw [hd]
    go_enter Tryz.func85, Tryz.ntmps85
    go_wp2_with fail
    go_ret
    simp
end Go.Proofs.YtlfbnfphocpgeaaGreatDoor.Num
namespace Go.Proofs.YtlfbnfphocpgeaaGreatDoor.Num
open Go.RowKit Kit
/-- A number as a value. -/
def numV (n : Dec) : Value := .agg #[.bool n.neg, .string (txt n.dig), .int .i64 n.exp]
set_option maxRecDepth 100000 in
set_option maxHeartbeats 1000000 in
theorem right_any {w : World} {n : Dec} (hl : n.dig.length < 1000000000) :
    Calls Tryz.prog 83 #[numV n] w fun e w' => e = .returned (.bool (decide (Right n))) ∧ Below w.heap.size w w' := by
  obtain ⟨ng, l, ex⟩ := n
  simp only [numV]
  have hs := txt_size l
  have b0 : Below w.heap.size w (w.alloc (.cells #[.bool ng, .string (txt l), .int .i64 ex] 25)) := (Below.refl _ w).alloc (Nat.le_refl _) _
  by_cases h0 : l = []
  · subst h0
    have hR : decide (Right ⟨ng, [], ex⟩) = (!ng && decide (ex = 0)) := by unfold Right; cases ng <;> simp
    rw [hR]
    simp only [List.length_nil] at hs
    cases ng with
    | true =>
      go_enter Tryz.func83, Tryz.ntmps83
      go_wp2_with fail
      go_ret
      exact ⟨rfl, b0⟩
    | false =>
      by_cases h1 : ex = 0
      · subst h1
        go_enter Tryz.func83, Tryz.ntmps83
        go_wp2_with fail
        go_ret
        exact ⟨rfl, b0⟩
      · have h1' : (ex == 0) = false := by simp [h1]
        go_enter Tryz.func83, Tryz.ntmps83
        go_wp2_with fail
        go_ret
        exact ⟨by simp, b0⟩
  · have hn : 0 < l.length := by
      cases l with
      | nil => exact absurd rfl h0
      | cons _ _ => simp
    have hRi : Right ⟨ng, l, ex⟩ ↔ (l.length ≤ 1000 ∧ -10000 ≤ ex ∧ ex ≤ 10000 ∧ (∀ c ∈ l, dg c = true) ∧ nb l 0 ≠ 48 ∧ nb l (l.length - 1) ≠ 48) := by
      unfold Right; rw [if_neg h0]
    have hn' : ((l.length : Int) == 0) = false := by simp [h0]
    by_cases hb : l.length ≤ 1000 ∧ -10000 ≤ ex ∧ ex ≤ 10000
    · have c1 : decide ((1000 : Int) < (l.length : Int)) = false := by simp; omega
      have c2 : decide (ex < -10000) = false := by simp; omega
      have c3 : decide ((10000 : Int) < ex) = false := by simp; omega
      go_enter Tryz.func83, Tryz.ntmps83
      go_wp2_with fail
      go_loopw [3] (fun j wr => ∃ k : Nat, j = .int .i64 k ∧ k ≤ l.length ∧ (∀ c ∈ l.take k, dg c = true) ∧ wr = w.alloc (.cells #[.bool ng, .string (txt l), .int .i64 ex] 25)) (fun j _ => l.length - (intOf j).toNat)
      case atStart => exact ⟨0, rfl, Nat.zero_le _, by simp, rfl⟩
      case round =>
        obtain ⟨k, rfl, hk, hall, rfl⟩ := hrel
        by_cases hlt : k < l.length
        · have hlt' : (k : Int) < (l.length : Int) := by omega
          have hd := digit_any (w := w.alloc (.cells #[.bool ng, .string (txt l), .int .i64 ex] 25)) (l := l) (i := k) hl
          by_cases h : DigAt l k
          · rw [decide_eq_true h] at hd
            have hall2 : ∀ c ∈ l.take (k + 1), dg c = true := by
              rw [List.take_succ_eq_append_getElem hlt]
              intro c hc
              rcases List.mem_append.1 hc with hc | hc
              · exact hall c hc
              · rw [List.mem_singleton] at hc
                subst hc
                exact (digAt_dg hlt).1 h
            have HA := Lib.hid hall2
            clear hall hall2 h hRi
            go_wp2_with fail
            refine hd.mono ?_
            rintro e w1 ⟨rfl, rfl⟩
            go_wp2_with fail
            go_roundw
            case rel => exact ⟨k + 1, by go_num, by omega, HA.out, by first | trivial | rfl⟩
            case measure => simp [intOf]; omega
          · rw [decide_eq_false h] at hd
            have hR : decide (Right ⟨ng, l, ex⟩) = false := decide_eq_false (fun e => h ((digAt_dg hlt).2 ((hRi.1 e).2.2.2.1 _ (List.getElem_mem hlt))))
            have HR := Lib.hid hR
            clear hall h hRi hR
            go_wp2_with fail
            refine hd.mono ?_
            rintro e w1 ⟨rfl, rfl⟩
            go_wp2_with fail
            go_ret
            rw [HR.out]
            exact ⟨rfl, b0⟩
        · obtain rfl : k = l.length := by omega
          rw [List.take_length] at hall
          have i1 := idx hn
          rw [show ((0 : Nat) : Int) = 0 from rfl] at i1
          have i2 := idx (l := l) (i := l.length - 1) (by omega)
          have hci : ((l.length - 1 : Nat) : Int) = (l.length : Int) - 1 := by omega
          rw [hci] at i2
          by_cases h1 : nb l 0 = 48
          · have hR : decide (Right ⟨ng, l, ex⟩) = false := decide_eq_false (fun e => (hRi.1 e).2.2.2.2.1 h1)
            have HR := Lib.hid hR
            rw [h1] at i1
            clear hall hRi hR hci i2
            go_wp2_with fail
            go_ret
            rw [HR.out]
            exact ⟨rfl, b0⟩
          · have h1' : ((nb l 0 : Int) != 48) = true := by simp; omega
            by_cases h2 : nb l (l.length - 1) = 48
            · have hR : decide (Right ⟨ng, l, ex⟩) = false := decide_eq_false (fun e => (hRi.1 e).2.2.2.2.2 h2)
              have HR := Lib.hid hR
              rw [h2] at i2
              clear hall hRi hR hci
              go_wp2_with fail
              go_ret
              rw [HR.out]
              exact ⟨rfl, b0⟩
            · have h2' : ((nb l (l.length - 1) : Int) != 48) = true := by simp; omega
              have hR : decide (Right ⟨ng, l, ex⟩) = true := decide_eq_true (hRi.2 ⟨hb.1, hb.2.1, hb.2.2, hall, h1, h2⟩)
              have HR := Lib.hid hR
              generalize nb l (l.length - 1) = y at *
              generalize nb l 0 = x at *
              clear hall hRi hR hci
              go_wp2_with fail
              go_ret
              rw [HR.out]
              exact ⟨rfl, b0⟩
    · have hR : decide (Right ⟨ng, l, ex⟩) = false := decide_eq_false (fun e => hb ⟨(hRi.1 e).1, (hRi.1 e).2.1, (hRi.1 e).2.2.1⟩)
      have HR := Lib.hid hR
      have hc : (1000 : Int) < (l.length : Int) ∨ (decide ((1000 : Int) < (l.length : Int)) = false ∧ ex < -10000) ∨ (decide ((1000 : Int) < (l.length : Int)) = false ∧ decide (ex < -10000) = false ∧ (10000 : Int) < ex) := by
        simp
        omega
      clear hRi hR hb
      rcases hc with c1 | ⟨c1, c2⟩ | ⟨c1, c2, c3⟩
      all_goals
        go_enter Tryz.func83, Tryz.ntmps83
        go_wp2_with fail
        go_ret
        rw [HR.out]
        exact ⟨rfl, b0⟩
/-- One byte, as a text. -/
theorem one_text (w : World) (x : Int) (m : Nat) (hm : m < 256) (e : x = (m : Int)) : (convert 60 9 (.slice (some ⟨w.heap.size, 0, none⟩) 1 1)).run Tryz.prog (w.alloc (.cells #[.int .u8 x] 5)) = .ok (.string (txt [UInt8.ofNat m])) (w.alloc (.cells #[.int .u8 x] 5)) := by
  subst e
  have hx : Byt.Bs (w.alloc (.cells #[.int .u8 (m : Int)] 5)) (.slice (some ⟨w.heap.size, 0, none⟩) [m].length [m].length) [m] := Byt.bs_lit (World.alloc_heap_new w _) rfl (by simpa using hm)
  exact Byt.convert_text hx
theorem add_txt (a b : List UInt8) : txt a ++ txt b = txt (a ++ b) := by
  apply ByteArray.ext
  simp [txt]
/-- '+' of two texts: its size is an int. -/
theorem add_fit {a b : List UInt8} (ha : a.length < 1000000000000) (hb : b.length < 1000000000000) : ¬ (9223372036854775807 < (txt a).size + (txt b).size) := by
  have h1 := txt_size a
  have h2 := txt_size b
  omega
/-- The same, behind a call that left it alone. -/
theorem one_text_after {W w1 : World} {x : Int} {g : Nat} (k : Below W.heap.size W w1) (h : W.heap[g]? = some (.cells #[.int .u8 x] 5 (0, 0))) (m : Nat) (hm : m < 256) (e : x = (m : Int)) :
    (convert 60 9 (.slice (some ⟨g, 0, none⟩) 1 1)).run Tryz.prog w1 = .ok (.string (txt [UInt8.ofNat m])) w1 := by
  subst e
  have hx : Byt.Bs W (.slice (some ⟨g, 0, none⟩) [m].length [m].length) [m] := Byt.bs_lit h rfl (by simpa using hm)
  exact Byt.convert_text (hx.below k)
end Go.Proofs.YtlfbnfphocpgeaaGreatDoor.Num
namespace Go.Proofs.YtlfbnfphocpgeaaGreatDoor.Num
/-- The value of digits from the lowest one on. -/
def valR : List UInt8 → Nat
  | [] => 0
  | c :: r => (c.toNat - 48) + 10 * valR r
theorem valD_rev (r : List UInt8) : valD r.reverse = valR r := by
  induction r with
  | nil => rfl
  | cons c r ih =>
    rw [List.reverse_cons, valD_snoc, ih]
    show valR r * 10 + (c.toNat - 48) = (c.toNat - 48) + 10 * valR r
    omega
theorem valD_eq (d : List UInt8) : valD d = valR d.reverse := by rw [← valD_rev, List.reverse_reverse]
theorem valR_app (r s : List UInt8) : valR (r ++ s) = valR r + 10 ^ r.length * valR s := by
  induction r with
  | nil => simp [valR]
  | cons c r ih =>
    show (c.toNat - 48) + 10 * valR (r ++ s) = (c.toNat - 48) + 10 * valR r + 10 ^ (r.length + 1) * valR s
    rw [ih, Nat.pow_succ, Nat.mul_comm (10 ^ r.length) 10, Nat.mul_assoc]
    omega
theorem right_exp {n : Dec} (h : Right n) : -10000 ≤ n.exp ∧ n.exp ≤ 10000 ∧ n.dig.length ≤ 1000 ∧ (∀ c ∈ n.dig, dg c = true) := by
  unfold Right at h
  split at h
  · rename_i h0
    rw [h0, h.2]
    simp
  · exact ⟨h.2.1, h.2.2.1, h.1, h.2.2.2.1⟩
/-- The digit at a power of ten. -/
def atN (n : Dec) (p : Int) : Nat :=
  if (n.dig.length : Int) - 1 - (p - n.exp) < 0 ∨ (n.dig.length : Int) ≤ (n.dig.length : Int) - 1 - (p - n.exp) then 48 else nb n.dig ((n.dig.length : Int) - 1 - (p - n.exp)).toNat
/-- A whole number of 64 bits. -/
def W (n : Dec) : Nat := valD n.dig * 10 ^ n.exp.toNat
def whole (n : Dec) : Nat × Bool :=
  if Right n ∧ n.neg = false ∧ 0 ≤ n.exp ∧ n.exp + n.dig.length ≤ 20 ∧ W n ≤ 18446744073709551615 then (W n, true) else (0, false)
theorem valR_zeros (k : Nat) (s : List UInt8) : valR (noughts k ++ s) = 10 ^ k * valR s := by
  rw [valR_app, noughts_len]
  have : ∀ k, valR (noughts k) = 0 := by
    intro k
    induction k with
    | zero => rfl
    | succ k ih =>
      show (48 - 48) + 10 * valR (noughts k) = 0
      rw [ih]
  rw [this]
  omega
theorem strip_val (d : List UInt8) (e : Int) : ∃ k : Nat, (strip d e).2 = e + k ∧ d = (strip d e).1 ++ noughts k ∧ valD d = valD (strip d e).1 * 10 ^ k := by
  have h1 : d.reverse.takeWhile z48 = noughts (d.reverse.takeWhile z48).length := by
    apply List.eq_replicate_iff.2
    refine ⟨rfl, fun c hc => ?_⟩
    have := List.all_eq_true.1 (List.all_takeWhile (l := d.reverse) (p := z48)) c hc
    simpa [z48] using this
  have h2 : d.reverse = noughts (d.reverse.takeWhile z48).length ++ d.reverse.dropWhile z48 := by
    rw [← h1]
    exact List.takeWhile_append_dropWhile.symm
  refine ⟨(d.reverse.takeWhile z48).length, rfl, ?_, ?_⟩
  · have := congrArg List.reverse h2
    rw [List.reverse_reverse, List.reverse_append] at this
    rw [show (noughts (d.reverse.takeWhile z48).length).reverse = noughts (d.reverse.takeWhile z48).length by simp [noughts]] at this
    exact this
  · rw [valD_eq d, h2, valR_zeros]
    show _ = valD (d.reverse.dropWhile z48).reverse * _
    rw [valD_rev, ← h2, Nat.mul_comm]
end Go.Proofs.YtlfbnfphocpgeaaGreatDoor.Num
namespace Go.Proofs.YtlfbnfphocpgeaaGreatDoor.Num
open Go.RowKit Kit
/-- 's[i]', the place an int. -/
theorem idz {l : List UInt8} {z : Int} (h0 : 0 ≤ z) (h1 : z < l.length) (wx : World) : (Instr.index 9 (.string (txt l)) (.int .i64 z)).run Tryz.prog wx = .ok (.int .u8 (nb l z.toNat : Int)) wx := by
  have := idx (l := l) (i := z.toNat) (by omega) wx
  rwa [Int.toNat_of_nonneg h0] at this
end Go.Proofs.YtlfbnfphocpgeaaGreatDoor.Num
namespace Go.Proofs.YtlfbnfphocpgeaaGreatDoor.Num
open Go.RowKit Kit
theorem txt_extract (l : List UInt8) (i j : Nat) : (txt l).extract i j = txt ((l.drop i).take (j - i)) := by
  apply ByteArray.ext
  apply Array.ext'
  rw [ByteArray.data_extract, Array.toList_extract, List.extract_eq_take_drop]
  rfl
/-- 's[:k]', 's[k:]', 's[i:j]'. -/
theorem slH {l : List UInt8} {z : Int} {k : Nat} (hz : z = (k : Int)) (hk : k ≤ l.length) (wx : World) : (Instr.slice 9 (.string (txt l)) none (some (.int .i64 z)) none).run Tryz.prog wx = .ok (.string (txt (l.take k))) wx := by
  subst hz
  have hs := txt_size l
  rw [run_slice_string_h (P := Tryz.prog) wx 9 (txt l) Tryz.underlying9 .i64 k (by omega) (by omega), txt_extract]
  simp
theorem slL {l : List UInt8} {z : Int} {k : Nat} (hz : z = (k : Int)) (hk : k ≤ l.length) (wx : World) : (Instr.slice 9 (.string (txt l)) (some (.int .i64 z)) none none).run Tryz.prog wx = .ok (.string (txt (l.drop k))) wx := by
  subst hz
  have hs := txt_size l
  rw [run_slice_string_l (P := Tryz.prog) wx 9 (txt l) Tryz.underlying9 .i64 k (by omega) (by omega), txt_extract]
  rw [hs, Int.toNat_natCast, List.take_of_length_le (by rw [List.length_drop]; omega)]
theorem slM {l : List UInt8} {y z : Int} {i j : Nat} (hy : y = (i : Int)) (hz : z = (j : Int)) (hi : i ≤ j) (hj : j ≤ l.length) (wx : World) : (Instr.slice 9 (.string (txt l)) (some (.int .i64 y)) (some (.int .i64 z)) none).run Tryz.prog wx = .ok (.string (txt ((l.drop i).take (j - i)))) wx := by
  subst hy; subst hz
  have hs := txt_size l
  rw [run_slice_string (P := Tryz.prog) wx 9 (txt l) .i64 .i64 i j Tryz.underlying9 (by omega) (by omega) (by omega), txt_extract]
  simp
/-- '+' of two texts, what it holds and that it fits, with the second one's bytes under a name of their own. -/
theorem add_lit {a b c : List UInt8} {s : ByteArray} (hs : s = txt b) (hc : a ++ b = c) (ha : a.length < 1000000000000) (hb : b.length < 1000000000000) : ¬ (9223372036854775807 < (txt a).size + s.size) ∧ txt a ++ s = txt c := by
  subst hs; subst hc
  exact ⟨add_fit ha hb, add_txt a b⟩
end Go.Proofs.YtlfbnfphocpgeaaGreatDoor.Num
namespace Go.Proofs.YtlfbnfphocpgeaaGreatDoor.Num
open Go.RowKit Kit
/-- The result's block, and the number's. -/
def Pair (w wr : World) (ng : Bool) (d : List UInt8) (e : Int) : Prop :=
  wr.heap[w.heap.size]? = some (.cells #[.bool false, .string (txt []), .int .i64 0] 25 (0, 0)) ∧
  wr.heap[w.heap.size + 1]? = some (.cells #[.bool ng, .string (txt d), .int .i64 e] 25 (0, 0)) ∧ Below w.heap.size w wr
theorem Pair.new (w : World) (ng : Bool) : Pair w ((w.alloc (.cells #[.bool false, .string (txt []), .int .i64 0] 25)).alloc (.cells #[.bool ng, .string (txt []), .int .i64 0] 25)) ng [] 0 := by
  refine ⟨new_of (World.alloc_heap_new w _) _, ?_, ((Below.refl _ w).alloc (Nat.le_refl _) _).alloc (by simp) _⟩
  have := World.alloc_heap_new (w.alloc (.cells #[.bool false, .string (txt []), .int .i64 0] 25)) (.cells #[.bool ng, .string (txt []), .int .i64 0] 25)
  rwa [World.size_alloc] at this
theorem set_other {w : World} {b g : Nat} {o : Obj} (h : w.heap[b]? = some o) (hne : b ≠ g) (i : Nat) (v : Value) : (w.setCell ⟨g, i, none⟩ v).heap[b]? = some o := by
  rw [Below.heap_setCell w ⟨g, i, none⟩ v b hne]
  exact h
theorem Pair.neg {w wr : World} {ng : Bool} {d : List UInt8} {e : Int} (h : Pair w wr ng d e) (x : Bool) : Pair w (wr.setCell ⟨w.heap.size + 1, 0, none⟩ (.bool x)) x d e :=
  ⟨set_other h.1 (by omega) _ _, set_of h.2.1 0 _, h.2.2.setCell (p := ⟨w.heap.size + 1, 0, none⟩) (by show w.heap.size ≤ w.heap.size + 1; omega) _⟩
theorem Pair.dig {w wr : World} {ng : Bool} {d : List UInt8} {e : Int} (h : Pair w wr ng d e) (x : List UInt8) : Pair w (wr.setCell ⟨w.heap.size + 1, 1, none⟩ (.string (txt x))) ng x e :=
  ⟨set_other h.1 (by omega) _ _, set_of h.2.1 1 _, h.2.2.setCell (p := ⟨w.heap.size + 1, 1, none⟩) (by show w.heap.size ≤ w.heap.size + 1; omega) _⟩
theorem Pair.exp {w wr : World} {ng : Bool} {d : List UInt8} {e : Int} (h : Pair w wr ng d e) (x : Int) : Pair w (wr.setCell ⟨w.heap.size + 1, 2, none⟩ (.int .i64 x)) ng d x :=
  ⟨set_other h.1 (by omega) _ _, set_of h.2.1 2 _, h.2.2.setCell (p := ⟨w.heap.size + 1, 2, none⟩) (by show w.heap.size ≤ w.heap.size + 1; omega) _⟩
theorem Pair.step {w wr wx : World} {ng : Bool} {d : List UInt8} {e : Int} (h : Pair w wr ng d e) (k : Below wr.heap.size wr wx) : Pair w wx ng d e :=
  ⟨(k.block _ (lt_of_heap h.1)).trans h.1, (k.block _ (lt_of_heap h.2.1)).trans h.2.1, h.2.2.trans (k.mono h.2.2.size)⟩
theorem Pair.drew {w wr : World} {ng : Bool} {d : List UInt8} {e : Int} (h : Pair w wr ng d e) : Pair w wr.drew ng d e := ⟨h.1, h.2.1, below_drewN h.2.2 1⟩
/-- What a parser answers. -/
def parseV (r : Dec × Nat) : Value := .tuple #[numV r.1, .int .i64 r.2]
theorem tw_lt {α : Type} (p : α → Bool) : ∀ (L : List α) (k : Nat), k < (L.takeWhile p).length → ∃ h : k < L.length, p L[k] = true ∧ (L.takeWhile p)[k]? = some L[k]
  | [], k, h => by simp at h
  | a :: L, k, h => by
    rw [List.takeWhile_cons] at h ⊢
    by_cases ha : p a = true
    · rw [if_pos ha] at h ⊢
      match k, h with
      | 0, _ => exact ⟨by simp, ha, rfl⟩
      | k + 1, h =>
        obtain ⟨h1, h2, h3⟩ := tw_lt p L k (by simpa using h)
        exact ⟨by simp; omega, h2, by simpa using h3⟩
    · rw [if_neg ha] at h
      simp at h
theorem tw_end {α : Type} (p : α → Bool) : ∀ (L : List α) (h : (L.takeWhile p).length < L.length), p (L[(L.takeWhile p).length]) = false
  | [], h => by simp at h
  | a :: L, h => by
    by_cases ha : p a = true
    · have e : (a :: L).takeWhile p = a :: L.takeWhile p := by rw [List.takeWhile_cons, if_pos ha]
      simp only [e, List.length_cons, List.getElem_cons_succ] at h ⊢
      exact tw_end p L (by omega)
    · have e : (a :: L).takeWhile p = [] := by rw [List.takeWhile_cons, if_neg ha]
      simp only [e, List.length_nil, List.getElem_cons_zero]
      simpa using ha
theorem tw_le {α : Type} (p : α → Bool) (L : List α) : (L.takeWhile p).length ≤ L.length := (List.takeWhile_sublist _).length_le
theorem nb_get {l : List UInt8} {i : Nat} (h : i < l.length) : nb l i = (l[i]).toNat := by
  unfold nb
  rw [List.getD_eq_getElem?_getD, List.getElem?_eq_getElem h]
  rfl
theorem take_snoc {α : Type} {L : List α} {k : Nat} {a : α} (h : L[k]? = some a) : L.take (k + 1) = L.take k ++ [a] := by
  obtain ⟨hl, rfl⟩ := List.getElem?_eq_some_iff.1 h
  exact List.take_succ_eq_append_getElem hl
/-- The state of the mantissa's loop stays small. -/
theorem mant_small (X : List UInt8) : -(X.length : Int) ≤ (X.foldl mantStep (false, 0, [])).2.1 ∧ (X.foldl mantStep (false, 0, [])).2.1 ≤ 0 ∧ (X.foldl mantStep (false, 0, [])).2.2.length ≤ X.length := by
  have gen : ∀ (X : List UInt8) (p : Bool) (e : Int) (d : List UInt8), e - X.length ≤ (X.foldl mantStep (p, e, d)).2.1 ∧ (X.foldl mantStep (p, e, d)).2.1 ≤ e ∧ (X.foldl mantStep (p, e, d)).2.2.length ≤ d.length + X.length := by
    intro X
    induction X with
    | nil => intro p e d; simp
    | cons c X ih =>
      intro p e d
      rw [List.foldl_cons]
      have hb : e - 1 ≤ (mantStep (p, e, d) c).2.1 ∧ (mantStep (p, e, d) c).2.1 ≤ e ∧ (mantStep (p, e, d) c).2.2.length ≤ d.length + 1 := by
        unfold mantStep
        split
        · dsimp only; omega
        · dsimp only
          refine ⟨by split <;> omega, by split <;> omega, ?_⟩
          split
          · rw [List.length_append]; simp
          · omega
      rcases hm : mantStep (p, e, d) c with ⟨p', e', d'⟩
      rw [hm] at hb
      dsimp only at hb
      obtain ⟨h1, h2, h3⟩ := ih p' e' d'
      rw [List.length_cons]
      refine ⟨by omega, by omega, by omega⟩
  have := gen X false 0 []
  simp at this
  omega
theorem exp_small (X : List UInt8) : (X.foldl expStep (0, false)).1 < 10000000000 := by
  have gen : ∀ (X : List UInt8) (a : Nat) (b : Bool), a < 10000000000 → (X.foldl expStep (a, b)).1 < 10000000000 := by
    intro X
    induction X with
    | nil => intro a b h; exact h
    | cons c X ih =>
      intro a b h
      rw [List.foldl_cons]
      refine ih _ _ ?_
      split
      · rename_i hh
        have := dg_num hh.1
        omega
      · exact h
  exact gen X 0 false (by decide)
theorem below_set3 {w W : World} (h : Below w.heap.size w W) (a b c : Value) : Below w.heap.size w (((W.setCell ⟨w.heap.size, 0, none⟩ a).setCell ⟨w.heap.size, 1, none⟩ b).setCell ⟨w.heap.size, 2, none⟩ c) :=
  ((h.setCell (p := ⟨w.heap.size, 0, none⟩) (Nat.le_refl _) a).setCell (p := ⟨w.heap.size, 1, none⟩) (Nat.le_refl _) b).setCell (p := ⟨w.heap.size, 2, none⟩) (Nat.le_refl _) c
/-- How many digits the number's block holds. -/
def dlen (g : Nat) (wx : World) : Nat := match wx.cell? ⟨g, 1, none⟩ with | some (.string s) => s.size | _ => 0
theorem dlen_of {g : Nat} {wx : World} {d : List UInt8} (h : wx.cell? ⟨g, 1, none⟩ = some (.string (txt d))) : dlen g wx = d.length := by
  unfold dlen
  rw [h]
  exact txt_size d
end Go.Proofs.YtlfbnfphocpgeaaGreatDoor.Num
