/- Facts of lists: the program's ways to a number's text, to its print, to which of two is the greater one, tell what the document's tell. Nothing is claimed here. -/
import Derived.Test.YtehpjidajmoggaaGreatDoorNumDfa
import Derived.Test.YtehpjidajmoggaaGreatDoorNumVal
import Derived.Lib.Strings
import Derived.Lib.Bytealg
import Derived.Lib.IndexAny
import Derived.Lib.TrimByte
import Derived.Lib.Repeat
import Derived.Lib.Small
import Derived.Lib.ItoaNum
namespace Go.Proofs.YtehpjidajmoggaaGreatDoor.Num
open Go

/-! the text's parts -/
/-- What stands behind the sign. -/
def rest (I F : List UInt8) (x : Option (UInt8 × List UInt8 × List UInt8)) : List UInt8 := I ++ (fracT F ++ expT x)
theorem head_not {I F : List UInt8} {x : Option (UInt8 × List UInt8 × List UInt8)} (h : Parts I F x) : ∃ c r, rest I F x = c :: r ∧ dg c = true := by
  obtain ⟨c, I', rfl⟩ := List.exists_cons_of_ne_nil h.ne
  exact ⟨c, I' ++ (fracT F ++ expT x), rfl, h.whole c (by simp)⟩
theorem cut_neg (n : Bool) {I F : List UInt8} {x : Option (UInt8 × List UInt8 × List UInt8)} (h : Parts I F x) :
    Lib.trimPrefix (text n I F x) [45] = rest I F x ∧ Lib.hasPrefix (text n I F x) [45] = n := by
  obtain ⟨c, r, e, hc⟩ := head_not h
  have hc' := dg_num hc
  have ht : text n I F x = negT n ++ (c :: r) := by rw [← e]; rfl
  rw [ht, e]
  cases n with
  | true => exact ⟨rfl, rfl⟩
  | false =>
    have h45 : (45 == c) = false := by
      rw [beq_eq_false_iff_ne]
      rintro rfl
      revert hc'
      decide
    have hp : Lib.hasPrefix (c :: r) [45] = false := by
      show List.isPrefixOf [45] (c :: r) = false
      simp [List.isPrefixOf, h45]
    refine ⟨?_, hp⟩
    show Lib.trimPrefix (c :: r) [45] = c :: r
    unfold Lib.trimPrefix
    rw [hp]
    rfl

/-- Bytes that are none of a number's. -/
theorem any_app {A B : List UInt8} (ch : List UInt8) (hA : ∀ c ∈ A, ch.contains c = false) : Lib.indexAny (A ++ B) ch = if Lib.indexAny B ch = -1 then -1 else A.length + Lib.indexAny B ch := by
  induction A with
  | nil => simp only [List.nil_append, List.length_nil]; split <;> omega
  | cons a A ih =>
    have hge := Lib.indexAny_ge ch B
    rw [List.cons_append, Lib.indexAny, hA a (by simp), ih (fun c hc => hA c (by simp [hc]))]
    by_cases h : Lib.indexAny B ch = -1
    · simp [h]
    · simp only [h, if_false, Bool.false_eq_true, List.length_cons]
      rw [if_neg (by simp; omega)]
      omega
theorem byte_app {A B : List UInt8} (ch : UInt8) (hA : ∀ c ∈ A, (c == ch) = false) : Lib.indexByte (A ++ B) ch = if Lib.indexByte B ch = -1 then -1 else A.length + Lib.indexByte B ch := by
  induction A with
  | nil => simp only [List.nil_append, List.length_nil]; split <;> omega
  | cons a A ih =>
    have hge := Lib.indexByte_ge B ch
    rw [List.cons_append, Lib.indexByte, hA a (by simp), ih (fun c hc => hA c (by simp [hc]))]
    by_cases h : Lib.indexByte B ch = -1
    · simp [h]
    · simp only [h, if_false, Bool.false_eq_true, List.length_cons]
      rw [if_neg (by simp; omega)]
      omega
def mantT (I F : List UInt8) : List UInt8 := I ++ fracT F
theorem mant_none {I F : List UInt8} (hI : ∀ c ∈ I, dg c = true) (hF : ∀ c ∈ F, dg c = true) : ∀ c ∈ mantT I F, ([101, 69] : List UInt8).contains c = false := by
  intro c hc
  have hd : dg c = true ∨ c = 46 := by
    unfold mantT fracT at hc
    rcases List.mem_append.1 hc with h | h
    · exact .inl (hI c h)
    · split at h
      · cases h
      · rcases List.mem_cons.1 h with h | h
        · exact .inr h
        · exact .inl (hF c h)
  rcases hd with h | rfl
  · have := dg_num h
    cases hh : ([101, 69] : List UInt8).contains c with
    | false => rfl
    | true =>
      exfalso
      simp at hh
      rcases hh with rfl | rfl <;> revert this <;> decide
  · rfl
theorem e_none {I F : List UInt8} (h : Parts I F none) : rest I F none = mantT I F ∧ Lib.indexAny (mantT I F) [101, 69] = -1 := by
  refine ⟨by simp [rest, mantT, expT], ?_⟩
  have := any_app (B := []) [101, 69] (mant_none h.whole h.frac)
  rw [List.append_nil] at this
  rw [this]
  rfl
theorem e_some {I F : List UInt8} {m : UInt8} {s E : List UInt8} (h : Parts I F (some (m, s, E))) :
    Lib.indexAny (rest I F (some (m, s, E))) [101, 69] = ((mantT I F).length : Nat) ∧ (rest I F (some (m, s, E))) = mantT I F ++ (m :: (s ++ E)) := by
  have e : rest I F (some (m, s, E)) = mantT I F ++ (m :: (s ++ E)) := by simp [rest, mantT, expT]
  refine ⟨?_, e⟩
  rw [e, any_app [101, 69] (mant_none h.whole h.frac)]
  have hm : Lib.indexAny (m :: (s ++ E)) [101, 69] = 0 := by
    rw [Lib.indexAny]
    rcases (h.mark m s E rfl).1 with rfl | rfl <;> rfl
  rw [hm]
  simp
/-- All of it is ASCII. -/
theorem dg_asc {c : UInt8} (h : dg c = true) : c.toNat < 128 := by have := dg_num h; omega
theorem rest_asc {I F : List UInt8} {x : Option (UInt8 × List UInt8 × List UInt8)} (h : Parts I F x) : ∀ c ∈ rest I F x, c.toNat < 128 := by
  intro c hc
  unfold rest fracT at hc
  rcases List.mem_append.1 hc with hc | hc
  · exact dg_asc (h.whole c hc)
  rcases List.mem_append.1 hc with hc | hc
  · split at hc
    · cases hc
    · rcases List.mem_cons.1 hc with rfl | hc
      · decide
      · exact dg_asc (h.frac c hc)
  · match x, h with
    | none, _ => cases hc
    | some (m, s, E), h =>
      obtain ⟨hm, hs, hE, hd⟩ := h.mark m s E rfl
      rcases List.mem_cons.1 hc with rfl | hc
      · rcases hm with rfl | rfl <;> decide
      rcases List.mem_append.1 hc with hc | hc
      · rcases hs with rfl | rfl | rfl
        · cases hc
        · rw [List.mem_singleton] at hc; subst hc; decide
        · rw [List.mem_singleton] at hc; subst hc; decide
      · exact dg_asc (hd c hc)
/-- The point. -/
theorem point_at {I F : List UInt8} (hI : ∀ c ∈ I, dg c = true) : Lib.indexByte (mantT I F) 46 = if F = [] then -1 else ((I.length : Nat) : Int) := by
  have hn : ∀ c ∈ I, (c == 46) = false := by
    intro c hc
    rw [beq_eq_false_iff_ne]
    rintro rfl
    have := dg_num (hI 46 hc)
    revert this
    decide
  unfold mantT
  rw [byte_app 46 hn]
  unfold fracT
  by_cases h : F = []
  · simp [h, Lib.indexByte]
  · simp [h, Lib.indexByte]
theorem trim_l (d : List UInt8) : Lib.trimLeftB d 48 = d.dropWhile z48 := by
  unfold Lib.trimLeftB
  congr 1
theorem trim_r (d : List UInt8) (e : Int) : Lib.trimRightB d 48 = (strip d e).1 := by
  unfold Lib.trimRightB strip
  congr 2

/-! the power -/
def capT : Nat := 1099511627776
def powN (E : List UInt8) : Nat := E.foldl (fun a c => min (10 * a + (c.toNat - 48)) capT) 0
def powZ (s E : List UInt8) : Int := if s = [45] then -(powN E : Int) else powN E
theorem powN_snoc (E : List UInt8) (c : UInt8) : powN (E ++ [c]) = min (10 * powN E + (c.toNat - 48)) capT := by simp [powN]
theorem powN_le (E : List UInt8) : powN E ≤ capT := by
  rcases List.eq_nil_or_concat E with rfl | ⟨E', c, rfl⟩
  · decide
  · rw [List.concat_eq_append, powN_snoc]
    exact Nat.min_le_right _ _
/-- The program's power and the document's: the same, or both too far. -/
theorem pow_like (E : List UInt8) (hE : ∀ c ∈ E, dg c = true) (b : Bool) : ((E.foldl expStep (0, b)).2 = b) ∧ ((E.foldl expStep (0, b)).1 = powN E ∧ powN E < 10000000000 ∨ 1000000000 ≤ (E.foldl expStep (0, b)).1 ∧ (E.foldl expStep (0, b)).1 < 10000000000 ∧ 1000000000 ≤ powN E) := by
  obtain ⟨k, hk⟩ : ∃ k, E.length = k := ⟨_, rfl⟩
  induction k generalizing E with
  | zero =>
    obtain rfl := List.length_eq_zero_iff.1 hk
    exact ⟨rfl, .inl ⟨rfl, by decide⟩⟩
  | succ k ih0 =>
    obtain ⟨E', c, rfl⟩ : ∃ E' c, E = E' ++ [c] := by
      rcases List.eq_nil_or_concat E with rfl | ⟨E', c, rfl⟩
      · simp at hk
      · exact ⟨E', c, List.concat_eq_append⟩
    have ih := fun h => ih0 E' h (by simpa using hk)
    clear ih0 hk
    have hc := dg_num (hE c (by simp))
    have h45 : decide (c = 45) = false := by
      rw [decide_eq_false_iff_not]
      rintro rfl
      revert hc
      decide
    obtain ⟨i1, i2⟩ := ih (fun x hx => hE x (by simp [hx]))
    rw [List.foldl_append, powN_snoc, List.foldl_cons, List.foldl_nil]
    generalize E'.foldl expStep (0, b) = st at *
    generalize powN E' = pw at *
    obtain ⟨v, b'⟩ := st
    dsimp only at i1 i2
    subst i1
    have hcap : capT = 1099511627776 := rfl
    unfold expStep
    dsimp only
    rw [h45, Bool.or_false]
    refine ⟨rfl, ?_⟩
    by_cases hv : v < 1000000000
    · rw [if_pos ⟨hE c (by simp), hv⟩]
      rcases i2 with ⟨e, h⟩ | ⟨h, _⟩
      · subst e
        left
        omega
      · omega
    · rw [if_neg (fun e => hv e.2)]
      right
      rcases i2 with ⟨e, h⟩ | ⟨h1, h2, h3⟩
      · subst e; omega
      · omega

theorem strip_len (d : List UInt8) (e : Int) : (strip d e).1.length ≤ d.length ∧ (strip d e).2 = e + d.length - (strip d e).1.length := by
  obtain ⟨k, h1, h2, _⟩ := strip_val d e
  have := congrArg List.length h2
  rw [List.length_append, noughts_len] at this
  omega
/-- Too far: no number that is right. -/
theorem norm_far (n : Bool) (d : List UInt8) {e e' : Int} (hd : d.length < 1000000) (h : 10000000 < e ∧ 10000000 < e' ∨ e < -10000000 ∧ e' < -10000000) : norm n d e = norm n d e' := by
  have h1 : (strip d e).1 = (strip d e').1 := rfl
  obtain ⟨a1, a2⟩ := strip_len d e
  obtain ⟨b1, b2⟩ := strip_len d e'
  unfold norm
  rw [← h1]
  by_cases h0 : (strip d e).1 = []
  · rw [if_pos h0, if_pos h0]
  · rw [if_neg h0, if_neg h0]
    have n1 : ¬ Right ⟨n, (strip d e).1, (strip d e).2⟩ := by
      intro hr
      have := right_exp hr
      dsimp only at this
      omega
    have n2 : ¬ Right ⟨n, (strip d e).1, (strip d e').2⟩ := by
      intro hr
      have := right_exp hr
      dsimp only at this
      rw [← h1] at b2
      omega
    rw [if_neg n1, if_neg n2]
def expZ : Option (UInt8 × List UInt8 × List UInt8) → Int
  | none => 0
  | some (_, s, E) => powZ s E
theorem expo_parts (s E : List UInt8) (hs : s = [] ∨ s = [43] ∨ s = [45]) : expo (s ++ E) = E.foldl expStep (0, decide (s = [45])) := by
  unfold expo
  rw [List.foldl_append]
  rcases hs with rfl | rfl | rfl <;> rfl
/-- What is parsed, by the program's own power. -/
theorem parse_prog (n : Bool) {I F : List UInt8} {x : Option (UInt8 × List UInt8 × List UInt8)} (h : Parts I F x) (hl : (text n I F x).length < 100000) :
    parse (text n I F x) = norm n ((I ++ F).dropWhile z48) (expZ x - F.length) := by
  have h0 := neg0_text n h
  have hs := scan_text n h
  have hm := mantL_text n h
  have hne : text n I F x ≠ [] := text_ne n h
  have hneg : decide (nb (text n I F x) 0 = 45) = n := by
    unfold neg0 at h0
    cases n with
    | true => rfl
    | false =>
      split at h0
      · cases h0
      · rename_i hh
        simp [hh]
  have hlF : F.length < 100000 ∧ ((I ++ F).dropWhile z48).length < 1000000 := by
    have h1 : ((I ++ F).dropWhile z48).length ≤ (I ++ F).length := (List.dropWhile_sublist _).length_le
    have h2 : (text n I F x).length = (negT n).length + (I.length + ((fracT F).length + (expT x).length)) := by simp [text]
    have h3 : F.length ≤ (fracT F).length := by unfold fracT; split <;> simp_all
    rw [List.length_append] at h1
    omega
  unfold parse
  rw [if_neg (by rw [hs]; simp [hne]), hm, mant_text h.whole h.frac, hneg, h0]
  have hdrop : (text n I F x).drop ((negT n).length + (I ++ fracT F).length + 1) = (expT x).drop 1 := by
    have e : text n I F x = (negT n ++ (I ++ fracT F)) ++ expT x := by simp [text]
    rw [e, ← List.length_append, List.drop_append, List.drop_eq_nil_of_le (by omega), List.nil_append]
    congr 1
    omega
  rw [hdrop]
  dsimp only
  match x, h with
  | none, _ =>
    show norm n _ (-(F.length : Int) + powOf (expo [])) = norm n _ (0 - (F.length : Int))
    congr 1
    show -(F.length : Int) + 0 = 0 - (F.length : Int)
    omega
  | some (m, s, E), h =>
    obtain ⟨_, hss, _, hE⟩ := h.mark m s E rfl
    show norm n _ (-(F.length : Int) + powOf (expo (s ++ E))) = norm n _ (powZ s E - (F.length : Int))
    rw [expo_parts s E hss]
    obtain ⟨p1, p2⟩ := pow_like E hE (decide (s = [45]))
    unfold powOf powZ
    rw [p1]
    generalize (E.foldl expStep (0, decide (s = [45]))).1 = v at *
    generalize powN E = v' at *
    by_cases c : s = [45]
    · rw [decide_eq_true c, if_pos c, if_pos rfl]
      rcases p2 with ⟨e, _⟩ | ⟨q1, q2, q3⟩
      · subst e
        congr 1
        omega
      · exact norm_far n _ hlF.2 (.inr ⟨by omega, by omega⟩)
    · rw [decide_eq_false c, if_neg c, if_neg (by simp)]
      rcases p2 with ⟨e, _⟩ | ⟨q1, q2, q3⟩
      · subst e
        congr 1
        omega
      · exact norm_far n _ hlF.2 (.inl ⟨by omega, by omega⟩)
end Go.Proofs.YtehpjidajmoggaaGreatDoor.Num
