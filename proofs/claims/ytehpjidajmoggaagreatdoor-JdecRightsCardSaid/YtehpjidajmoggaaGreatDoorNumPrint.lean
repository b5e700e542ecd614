/- Facts of lists about decimal numbers: what is printed is parsed as it was; the ways of writing one number. Nothing is claimed here. -/
import Derived.Test.YtehpjidajmoggaaGreatDoorNumSpec
namespace Go.Proofs.YtehpjidajmoggaaGreatDoor.Num

/-- A whole number's digits. -/
def digits (n : Nat) : List UInt8 := if n < 10 then [UInt8.ofNat (48 + n)] else digits (n / 10) ++ [UInt8.ofNat (48 + n % 10)]
termination_by n
decreasing_by omega
theorem digits_lo {n : Nat} (h : n < 10) : digits n = [UInt8.ofNat (48 + n)] := by rw [digits, if_pos h]
theorem digits_hi {n : Nat} (h : 10 ≤ n) : digits n = digits (n / 10) ++ [UInt8.ofNat (48 + n % 10)] := by rw [digits, if_neg (by omega)]
theorem ofNat_dig {x : Nat} (h : x < 10) : (UInt8.ofNat (48 + x)).toNat = 48 + x := by
  rw [UInt8.toNat_ofNat']
  omega
theorem digits_ne (n : Nat) : digits n ≠ [] := by
  by_cases h : n < 10
  · rw [digits_lo h]; simp
  · rw [digits_hi (by omega)]; simp
theorem digits_dg : ∀ (n : Nat), ∀ c ∈ digits n, dg c = true := by
  intro n
  induction n using Nat.strongRecOn with
  | ind n ih =>
    intro c hc
    by_cases h : n < 10
    · rw [digits_lo h, List.mem_singleton] at hc
      subst hc
      have := ofNat_dig h
      simp only [dg, decide_eq_true_eq]
      omega
    · rw [digits_hi (by omega)] at hc
      rcases List.mem_append.1 hc with hc | hc
      · exact ih (n / 10) (by omega) c hc
      · rw [List.mem_singleton] at hc
        subst hc
        have := ofNat_dig (x := n % 10) (by omega)
        simp only [dg, decide_eq_true_eq]
        omega
theorem digits_head : ∀ (n : Nat), 0 < n → (digits n).head? ≠ some 48 := by
  intro n
  induction n using Nat.strongRecOn with
  | ind n ih =>
    intro h0
    by_cases h : n < 10
    · rw [digits_lo h, List.head?_cons]
      intro e
      injection e with e
      have := congrArg UInt8.toNat e
      rw [ofNat_dig h] at this
      revert this
      show ¬ (48 + n = 48)
      omega
    · rw [digits_hi (by omega), List.head?_append]
      have := ih (n / 10) (by omega) (by omega)
      obtain ⟨c, r, e⟩ := List.exists_cons_of_ne_nil (digits_ne (n / 10))
      rw [e] at this ⊢
      simpa using this
theorem digits_zero : digits 0 = [48] := by rw [digits_lo (by omega)]; rfl
theorem valD_snoc (d : List UInt8) (c : UInt8) : valD (d ++ [c]) = valD d * 10 + (c.toNat - 48) := by simp [valD]
theorem valD_digits : ∀ (n : Nat), valD (digits n) = n := by
  intro n
  induction n using Nat.strongRecOn with
  | ind n ih =>
    by_cases h : n < 10
    · rw [digits_lo h]
      show 0 * 10 + ((UInt8.ofNat (48 + n)).toNat - 48) = n
      rw [ofNat_dig h]
      omega
    · rw [digits_hi (by omega), valD_snoc, ih (n / 10) (by omega), ofNat_dig (by omega)]
      omega
theorem digits_parts (n : Nat) {F : List UInt8} {x : Option (UInt8 × List UInt8 × List UInt8)} (hF : ∀ c ∈ F, dg c = true)
    (hx : ∀ m s E, x = some (m, s, E) → (m = 101 ∨ m = 69) ∧ (s = [] ∨ s = [43] ∨ s = [45]) ∧ E ≠ [] ∧ ∀ c ∈ E, dg c = true) : Parts (digits n) F x := by
  refine ⟨digits_ne n, digits_dg n, ?_, hF, hx⟩
  by_cases h : n = 0
  · subst h
    exact .inl digits_zero
  · exact .inr (digits_head n (by omega))
theorem digits_len : ∀ (n k : Nat), n < 10 ^ k → 0 < k → (digits n).length ≤ k := by
  intro n
  induction n using Nat.strongRecOn with
  | ind n ih =>
    intro k hk h0
    by_cases h : n < 10
    · rw [digits_lo h]; simp; omega
    · rw [digits_hi (by omega), List.length_append]
      have h1 : 10 ^ k = 10 ^ (k - 1) * 10 := by rw [← Nat.pow_succ]; congr 1; omega
      have h2 : 0 < k - 1 := by
        by_cases e : k = 1
        · subst e; omega
        · omega
      have := ih (n / 10) (by omega) (k - 1) (by omega) h2
      simp
      omega

def noughts (n : Nat) : List UInt8 := List.replicate n 48
theorem noughts_dg (n : Nat) : ∀ c ∈ noughts n, dg c = true := by
  intro c hc
  rw [List.eq_of_mem_replicate hc]
  decide
theorem noughts_len (n : Nat) : (noughts n).length = n := List.length_replicate

/-- The print. -/
def print (n : Dec) : List UInt8 :=
  if ¬ Right n then []
  else if n.dig = [] then [48]
  else if 20 < n.exp then negT n.neg ++ (n.dig ++ (101 :: digits n.exp.toNat))
  else if n.exp < -20 then negT n.neg ++ (n.dig ++ (101 :: 45 :: digits (-n.exp).toNat))
  else if 0 ≤ n.exp then negT n.neg ++ (n.dig ++ noughts n.exp.toNat)
  else if -n.exp < n.dig.length then negT n.neg ++ (n.dig.take (n.dig.length - (-n.exp).toNat) ++ (46 :: n.dig.drop (n.dig.length - (-n.exp).toNat)))
  else negT n.neg ++ (48 :: 46 :: (noughts ((-n.exp).toNat - n.dig.length) ++ n.dig))

theorem dropZ_noughts (n : Nat) (D : List UInt8) : (noughts n ++ D).dropWhile z48 = D.dropWhile z48 := by
  induction n with
  | zero => rfl
  | succ n ih =>
    unfold noughts at *
    rw [List.replicate_succ, List.cons_append, List.dropWhile_cons, if_pos (by decide), ih]
theorem dropZ_head {D : List UInt8} (h : D.head? ≠ some 48) : D.dropWhile z48 = D := by
  match D, h with
  | [], _ => rfl
  | c :: D, h =>
    rw [List.dropWhile_cons, if_neg]
    simpa [z48] using h
theorem strip_noughts (n : Nat) (d : List UInt8) (e : Int) : strip (d ++ noughts n) e = strip d (e + n) := by
  induction n generalizing e with
  | zero => simp [noughts]
  | succ n ih =>
    have h1 : d ++ noughts (n + 1) = (d ++ noughts n) ++ [48] := by
      unfold noughts
      rw [List.replicate_succ', List.append_assoc]
    rw [h1, strip_on (by have := nb_app (d ++ noughts n) [48] 0; simp at this ⊢; rw [this]; rfl), List.dropLast_concat, ih]
    congr 1
    omega
theorem norm_noughts (neg : Bool) (n : Nat) (d : List UInt8) (e : Int) : norm neg (d ++ noughts n) e = norm neg d (e + n) := by
  unfold norm
  rw [strip_noughts]
theorem right_head {n : Dec} (h : Right n) (h0 : n.dig ≠ []) : n.dig.head? ≠ some 48 ∧ nb n.dig 0 ≠ 48 ∧ nb n.dig (n.dig.length - 1) ≠ 48 ∧ (∀ c ∈ n.dig, dg c = true) ∧ n.dig.length ≤ 1000 ∧ -10000 ≤ n.exp ∧ n.exp ≤ 10000 := by
  unfold Right at h
  rw [if_neg h0] at h
  refine ⟨?_, h.2.2.2.2.1, h.2.2.2.2.2, h.2.2.2.1, h.1, h.2.1, h.2.2.1⟩
  obtain ⟨c, r, e⟩ := List.exists_cons_of_ne_nil h0
  have h1 := h.2.2.2.2.1
  rw [e] at h1 ⊢
  intro e2
  simp at e2
  subst e2
  exact h1 rfl
theorem norm_right {n : Dec} (h : Right n) (h0 : n.dig ≠ []) : norm n.neg n.dig n.exp = (n, 0) := by
  have hh := right_head h h0
  unfold norm
  rw [strip_stop hh.2.2.1, if_neg h0, if_pos h]

theorem digits_val {x : Nat} (h : x ≤ 10000) : valD (digits x) < 1000000000 := by rw [valD_digits]; omega

/-- What is printed is a text of the number. -/
theorem print_text {n : Dec} (h : Right n) : ∃ I F x, Parts I F x ∧ print n = text n.neg I F x ∧ (∀ m s E, x = some (m, s, E) → valD E < 1000000000) ∧ norm n.neg ((I ++ F).dropWhile z48) (expV x - F.length) = (n, 0) := by
  by_cases h0 : n.dig = []
  · have hz : n = zero := by
      have h1 := h
      unfold Right at h1
      rw [if_pos h0] at h1
      cases n
      simp_all [zero]
    subst hz
    refine ⟨[48], [], none, ⟨by simp, by decide, .inl rfl, by simp, by simp⟩, by decide, by simp, by decide⟩
  · obtain ⟨hh, hn0, hnl, hd, hlen, he0, he1⟩ := right_head h h0
    have hnr := norm_right h h0
    unfold print
    rw [if_neg (not_not_intro h), if_neg h0]
    by_cases c1 : 20 < n.exp
    · rw [if_pos c1]
      refine ⟨n.dig, [], some (101, [], digits n.exp.toNat), ⟨h0, hd, .inr hh, by simp, ?_⟩, ?_, ?_, ?_⟩
      · intro m s E e
        injection e with e
        injection e with e1 e2
        injection e2 with e2 e3
        subst e1; subst e2; subst e3
        exact ⟨.inl rfl, .inl rfl, digits_ne _, digits_dg _⟩
      · simp [text, fracT, expT]
      · intro m s E e
        injection e with e
        injection e with e1 e2
        injection e2 with e2 e3
        subst e3
        exact digits_val (by omega)
      · rw [List.append_nil, dropZ_head hh]
        simp only [expV, valD_digits, List.length_nil]
        rw [if_neg (by simp)]
        rw [show ((n.exp.toNat : Int) - (0 : Nat)) = n.exp by omega]
        exact hnr
    · rw [if_neg c1]
      by_cases c2 : n.exp < -20
      · rw [if_pos c2]
        refine ⟨n.dig, [], some (101, [45], digits (-n.exp).toNat), ⟨h0, hd, .inr hh, by simp, ?_⟩, ?_, ?_, ?_⟩
        · intro m s E e
          injection e with e
          injection e with e1 e2
          injection e2 with e2 e3
          subst e1; subst e2; subst e3
          exact ⟨.inl rfl, .inr (.inr rfl), digits_ne _, digits_dg _⟩
        · simp [text, fracT, expT]
        · intro m s E e
          injection e with e
          injection e with e1 e2
          injection e2 with e2 e3
          subst e3
          exact digits_val (by omega)
        · rw [List.append_nil, dropZ_head hh]
          simp only [expV, valD_digits, List.length_nil]
          simp only [if_true]
          rw [show (-((-n.exp).toNat : Int) - (0 : Nat)) = n.exp by omega]
          exact hnr
      · rw [if_neg c2]
        by_cases c3 : 0 ≤ n.exp
        · rw [if_pos c3]
          refine ⟨n.dig ++ noughts n.exp.toNat, [], none, ⟨by simp [h0], ?_, .inr ?_, by simp, by simp⟩, ?_, by simp, ?_⟩
          · intro c hc
            rcases List.mem_append.1 hc with hc | hc
            · exact hd c hc
            · exact noughts_dg _ c hc
          · obtain ⟨c, r, e⟩ := List.exists_cons_of_ne_nil h0
            rw [e] at hh ⊢
            simpa using hh
          · simp [text, fracT, expT]
          · have : (n.dig ++ noughts n.exp.toNat).dropWhile z48 = n.dig ++ noughts n.exp.toNat := dropZ_head (by
              obtain ⟨c, r, e⟩ := List.exists_cons_of_ne_nil h0
              rw [e] at hh ⊢
              simpa using hh)
            rw [List.append_nil, this, norm_noughts]
            simp only [expV, List.length_nil]
            rw [show ((0 : Int) - (0 : Nat) + (n.exp.toNat : Int)) = n.exp by omega]
            exact hnr
        · rw [if_neg c3]
          by_cases c4 : -n.exp < n.dig.length
          · rw [if_pos c4]
            obtain ⟨q, hq⟩ : ∃ q, n.dig.length - (-n.exp).toNat = q := ⟨_, rfl⟩
            rw [hq]
            have hF : n.dig.drop q ≠ [] := by
              intro e
              have := congrArg List.length e
              rw [List.length_drop] at this
              simp at this
              omega
            refine ⟨n.dig.take q, n.dig.drop q, none, ⟨?_, fun c hc => hd c (List.mem_of_mem_take hc), .inr ?_, fun c hc => hd c (List.mem_of_mem_drop hc), by simp⟩, ?_, by simp, ?_⟩
            · intro e
              have := congrArg List.length e
              rw [List.length_take, List.length_nil] at this
              omega
            · rw [List.head?_take, if_neg (by omega)]
              exact hh
            · simp [text, fracT, expT, hF]
            · rw [List.take_append_drop, dropZ_head hh, List.length_drop]
              simp only [expV]
              rw [show ((0 : Int) - ((n.dig.length - q : Nat) : Int)) = n.exp by omega]
              exact hnr
          · rw [if_neg c4]
            refine ⟨[48], noughts ((-n.exp).toNat - n.dig.length) ++ n.dig, none, ⟨by simp, by decide, .inl rfl, ?_, by simp⟩, ?_, by simp, ?_⟩
            · intro c hc
              rcases List.mem_append.1 hc with hc | hc
              · exact noughts_dg _ c hc
              · exact hd c hc
            · have : noughts ((-n.exp).toNat - n.dig.length) ++ n.dig ≠ [] := by simp [h0]
              simp [text, fracT, expT, this]
            · have e1 : [48] ++ (noughts ((-n.exp).toNat - n.dig.length) ++ n.dig) = noughts ((-n.exp).toNat - n.dig.length + 1) ++ n.dig := by simp [noughts, List.replicate_succ]
              rw [e1, dropZ_noughts, dropZ_head hh, List.length_append, noughts_len]
              simp only [expV]
              rw [show ((0 : Int) - (((-n.exp).toNat - n.dig.length + n.dig.length : Nat) : Int)) = n.exp by omega]
              exact hnr

theorem text_ne (n : Bool) {I F : List UInt8} {x : Option (UInt8 × List UInt8 × List UInt8)} (h : Parts I F x) : text n I F x ≠ [] := by
  intro e
  have := congrArg List.length e
  obtain ⟨c, I', rfl⟩ := List.exists_cons_of_ne_nil h.ne
  simp [text] at this
theorem parse_print {n : Dec} (h : Right n) : parse (print n) = (n, 0) ∧ scan (print n) = (print n).length ∧ print n ≠ [] := by
  obtain ⟨I, F, x, hp, e, hv, hn⟩ := print_text h
  rw [e]
  exact ⟨by rw [parse_text _ hp hv]; exact hn, scan_text _ hp, text_ne _ hp⟩
theorem print_wrong {n : Dec} (h : ¬ Right n) : print n = [] := by unfold print; rw [if_pos h]
end Go.Proofs.YtehpjidajmoggaaGreatDoor.Num
