/- Facts of lists about quoted texts: what is printed is told as it was, whatever follows; cut short, it lacks something. Nothing is claimed here. -/
import Derived.Test.YtehpjidajmoggaaGreatDoorQuoSpec
namespace Go.Proofs.YtehpjidajmoggaaGreatDoor.Quo
open Utf

/-- The sign behind a backslash for a byte. -/
def shortB (c : UInt8) : Option UInt8 :=
  if c = 34 then some 34 else if c = 92 then some 92 else if c = 8 then some 98 else if c = 12 then some 102 else if c = 10 then some 110 else if c = 13 then some 114 else if c = 9 then some 116 else none
/-- A small hexadecimal digit. -/
def hexD (n : Nat) : UInt8 := UInt8.ofNat (if n < 10 then 48 + n else 97 + n - 10)
/-- How a byte is printed. -/
def esc (c : UInt8) : List UInt8 :=
  match shortB c with
  | some x => [92, x]
  | none => if c.toNat < 32 then [92, 117, 48, 48, hexD (c.toNat / 16), hexD (c.toNat % 16)] else [c]
def print (s : List UInt8) : List UInt8 := 34 :: (s.flatMap esc ++ [34])

theorem esc_hi {c : UInt8} (h : 128 ≤ c.toNat) : esc c = [c] := by
  have hs : shortB c = none := by
    unfold shortB
    repeat (rw [if_neg (by rintro rfl; revert h; decide)])
  unfold esc
  rw [hs]
  dsimp only
  rw [if_neg (by omega)]
/-- All bytes below 128, each told by its print; cut short, it lacks something. -/
theorem esc_lo : ∀ c : Fin 128, (esc (UInt8.ofNat c.val)).head? ≠ some 34 ∧ (∀ j, j < (esc (UInt8.ofNat c.val)).length → (part ((esc (UInt8.ofNat c.val)).take j)).e = 2) := by decide +kernel

theorem hexV_hexD : ∀ n : Fin 16, hexV (hexD n.val) = some n.val := by decide +kernel
theorem unit_00 {a b : Nat} (ha : a < 16) (hb : b < 16) (r : List UInt8) : unit (48 :: 48 :: hexD a :: hexD b :: r) = (a * 16 + b, 0) := by
  have h1 : hexV (hexD a) = some a := hexV_hexD ⟨a, ha⟩
  have h2 : hexV (hexD b) = some b := hexV_hexD ⟨b, hb⟩
  have h3 : hexV 48 = some 0 := by decide
  unfold unit
  simp only [unitF, h1, h2, h3]
  simp
theorem coded_00 {a b : Nat} (ha : a < 16) (hb : b < 16) (r : List UInt8) : coded (48 :: 48 :: hexD a :: hexD b :: r) = ⟨enc (a * 16 + b), 6, 0⟩ := by
  unfold coded
  rw [unit_00 ha hb]
  dsimp only
  rw [if_neg (by omega), if_neg (by omega), if_pos (by omega)]
theorem ofNat_toNat (c : UInt8) : UInt8.ofNat c.toNat = c := UInt8.ofNat_toNat
theorem part_lo {c : UInt8} (h : c.toNat < 128) (r : List UInt8) : part (esc c ++ r) = ⟨[c], (esc c).length, 0⟩ := by
  cases hs : shortB c with
  | some x =>
    have he : esc c = [92, x] := by unfold esc; rw [hs]
    have hsg : sign x = some c := by
      unfold shortB at hs
      repeat (split at hs; (rename_i hc; injection hs with hs; subst hs; subst hc; decide))
      cases hs
    rw [he]
    show part (92 :: x :: r) = _
    unfold part
    dsimp only
    rw [if_neg (by decide), if_neg (by decide), hsg]
    rfl
  | none =>
    by_cases h32 : c.toNat < 32
    · have he : esc c = [92, 117, 48, 48, hexD (c.toNat / 16), hexD (c.toNat % 16)] := by unfold esc; rw [hs]; dsimp only; rw [if_pos h32]
      rw [he]
      show part (92 :: 117 :: 48 :: 48 :: hexD (c.toNat / 16) :: hexD (c.toNat % 16) :: r) = _
      unfold part
      dsimp only
      rw [if_neg (by decide), if_neg (by decide), show sign 117 = none by decide]
      dsimp only
      rw [if_pos rfl, coded_00 (by omega) (by omega), show c.toNat / 16 * 16 + c.toNat % 16 = c.toNat by omega, enc_byte h]
      rfl
    · have he : esc c = [c] := by unfold esc; rw [hs]; dsimp only; rw [if_neg h32]
      have h92 : c ≠ 92 := by rintro rfl; revert hs; decide
      have h1 := one_enc (c := c.toNat) (by unfold Scalar; omega) r
      rw [enc_byte h] at h1
      rw [he]
      show part (c :: r) = _
      have h1' : one (c :: r) = (c.toNat, 1) := h1
      unfold part
      dsimp only
      rw [if_neg h32, if_pos h92, h1']
      dsimp only
      rw [if_neg (by omega)]
      rfl
theorem enc_hi {c : Nat} (hc : Scalar c) (h : 128 ≤ c) : ∀ b ∈ enc c, 128 ≤ b.toNat := by
  intro b hb
  have hc' := hc
  unfold Scalar at hc'
  rcases enc_kinds hc with ⟨m1, e⟩ | ⟨m1, m2, e⟩ | ⟨m1, m2, e⟩ | ⟨m1, m2, e⟩
  · omega
  all_goals
    rw [e] at hb
    simp only [List.mem_cons, List.not_mem_nil, or_false] at hb
  · rcases hb with rfl | rfl <;> rw [nbc (by omega)] <;> omega
  · rcases hb with rfl | rfl | rfl <;> rw [nbc (by omega)] <;> omega
  · rcases hb with rfl | rfl | rfl | rfl <;> rw [nbc (by omega)] <;> omega
theorem esc_all {l : List UInt8} (h : ∀ b ∈ l, 128 ≤ b.toNat) : l.flatMap esc = l := by
  induction l with
  | nil => rfl
  | cons b l ih =>
    rw [List.flatMap_cons, esc_hi (h b (by simp)), ih (fun x hx => h x (by simp [hx]))]
    rfl
theorem part_hi {c : Nat} (hc : Scalar c) (h : 128 ≤ c) (r : List UInt8) : part (enc c ++ r) = ⟨enc c, (enc c).length, 0⟩ := by
  have hb := enc_hi hc h
  have hl := enc_len (c := c)
  have h1 := one_enc hc r
  obtain ⟨b, t, e⟩ := List.exists_cons_of_ne_nil (show enc c ≠ [] by intro e; rw [e] at hl; simp at hl)
  have hb0 := hb b (by rw [e]; simp)
  rw [e] at h1 ⊢
  show part (b :: (t ++ r)) = _
  have h1' : one (b :: (t ++ r)) = (c, (b :: t).length) := h1
  unfold part
  dsimp only
  rw [if_neg (by omega), if_pos (by rintro rfl; revert hb0; decide), h1']
  dsimp only
  rw [if_neg (by simp)]
  congr 1
  exact List.take_left (l₁ := b :: t) (l₂ := r)
/-- How a scalar is printed. -/
def escS (c : Nat) : List UInt8 := (enc c).flatMap esc
theorem escS_lo {c : Nat} (h : c < 128) : escS c = esc (UInt8.ofNat c) := by
  have e : (UInt8.ofNat c).toNat = c := nbc (by omega)
  have := enc_byte (x := UInt8.ofNat c) (by omega)
  rw [e] at this
  unfold escS
  rw [this]
  simp
theorem part_escS {c : Nat} (hc : Scalar c) (r : List UInt8) : part (escS c ++ r) = ⟨enc c, (escS c).length, 0⟩ := by
  by_cases h : c < 128
  · have e : (UInt8.ofNat c).toNat = c := nbc (by omega)
    have hb := enc_byte (x := UInt8.ofNat c) (by omega)
    rw [e] at hb
    rw [escS_lo h, part_lo (by omega), hb]
  · have : escS c = enc c := esc_all (enc_hi hc (by omega))
    rw [this]
    exact part_hi hc (by omega) r
theorem escS_head {c : Nat} (hc : Scalar c) (r : List UInt8) : (escS c ++ r).head? ≠ some 34 ∧ escS c ≠ [] := by
  by_cases h : c < 128
  · have h1 := (esc_lo ⟨c, h⟩).1
    have hp := part_lo (c := UInt8.ofNat c) (by rw [nbc (by omega)]; exact h) []
    rw [escS_lo h]
    have hne : esc (UInt8.ofNat c) ≠ [] := by
      intro e
      rw [e] at hp
      cases hp
    obtain ⟨b, t, e⟩ := List.exists_cons_of_ne_nil hne
    dsimp only at h1
    rw [e] at h1 ⊢
    exact ⟨by simpa using h1, by simp⟩
  · have e0 : escS c = enc c := esc_all (enc_hi hc (by omega))
    have hl := enc_len (c := c)
    obtain ⟨b, t, e⟩ := List.exists_cons_of_ne_nil (show enc c ≠ [] by intro e; rw [e] at hl; simp at hl)
    have hb0 := enc_hi hc (by omega) b (by rw [e]; simp)
    rw [e0, e]
    refine ⟨?_, by simp⟩
    simp
    rintro rfl
    revert hb0
    decide
/-- A print that is cut short within a scalar's lacks something, or breaks it off. -/
theorem part_cut {c : Nat} (hc : Scalar c) {j : Nat} (hj : j < (escS c).length) : (part ((escS c).take j)).e = 2 ∨ (part ((escS c).take j)).e = 7 := by
  by_cases h : c < 128
  · rw [escS_lo h] at hj ⊢
    exact .inl ((esc_lo ⟨c, h⟩).2 j hj)
  · have e0 : escS c = enc c := esc_all (enc_hi hc (by omega))
    have hb := enc_hi hc (by omega)
    rw [e0] at hj ⊢
    match j, hj with
    | 0, _ => left; rfl
    | j + 1, hj =>
      right
      obtain ⟨b, t, e⟩ := List.exists_cons_of_ne_nil (show enc c ≠ [] by intro e; rw [e] at hj; simp at hj)
      have hb0 := hb b (by rw [e]; simp)
      have hone : (one ((enc c).take (j + 1))).2 = 0 := by
        by_cases h0 : (one ((enc c).take (j + 1))).2 = 0
        · exact h0
        · exfalso
          obtain ⟨k1, k2, k3⟩ := one_bytes h0
          have e3 : enc c = enc (one ((enc c).take (j + 1))).1 ++ (enc c).drop (one ((enc c).take (j + 1))).2 := by
            rw [← k2, List.take_take, Nat.min_eq_left (by rw [List.length_take] at k3; omega), List.take_append_drop]
          have o1 := one_enc hc []
          rw [List.append_nil] at o1
          have o2 := one_enc k1 ((enc c).drop (one ((enc c).take (j + 1))).2)
          rw [← e3, o1] at o2
          have o3 := congrArg Prod.fst o2
          dsimp only at o3
          have k4 := congrArg List.length k2
          rw [← o3, List.length_take] at k4
          rw [List.length_take] at k3 k4
          omega
      rw [e] at hone ⊢
      rw [List.take_succ_cons] at hone ⊢
      unfold part
      dsimp only
      rw [if_neg (by omega), if_pos (by rintro rfl; revert hb0; decide), if_pos hone]
      rfl

/-- A text is made of scalars. -/
theorem valid_cs : ∀ l : List UInt8, bad l = none → ∃ cs : List Nat, (∀ c ∈ cs, Scalar c) ∧ l = cs.flatMap enc := by
  refine scan_ind ?_ ?_ ?_
  · intro _
    exact ⟨[], by simp, rfl⟩
  · intro l hl h0 h
    unfold bad at h
    rw [scan_bad hl h0] at h
    cases h
  · intro c r hc ih h
    unfold bad at h
    rw [scan_enc hc] at h
    have h2 : bad r = none := by
      have := scan_shift r 0 (enc c).length
      unfold bad
      cases hb : (Utf.scan 0 r).2 with
      | none => rfl
      | some x =>
        rw [this, hb] at h
        cases h
    obtain ⟨cs, h3, rfl⟩ := ih h2
    refine ⟨c :: cs, ?_, rfl⟩
    intro x hx
    rcases List.mem_cons.1 hx with rfl | hx
    · exact hc
    · exact h3 x hx
theorem cs_valid : ∀ cs : List Nat, (∀ c ∈ cs, Scalar c) → bad (cs.flatMap enc) = none
  | [], _ => by unfold bad; rw [List.flatMap_nil, scan_nil]
  | c :: cs, h => by
    have ih := cs_valid cs (fun x hx => h x (by simp [hx]))
    unfold bad at ih ⊢
    rw [List.flatMap_cons, scan_enc (h c (by simp)), scan_shift]
    dsimp only
    rw [ih]
    rfl
theorem flat_esc (cs : List Nat) : (cs.flatMap enc).flatMap esc = cs.flatMap escS := by
  induction cs with
  | nil => rfl
  | cons c cs ih =>
    rw [List.flatMap_cons, List.flatMap_append, ih, List.flatMap_cons]
    rfl

theorem scanF_print : ∀ (cs : List Nat), (∀ c ∈ cs, Scalar c) → ∀ (s : List UInt8) (at' : Nat) (more : List UInt8), scanF s at' (cs.flatMap escS ++ 34 :: more) = ⟨s ++ cs.flatMap enc, at' + (cs.flatMap escS).length + 1, 0⟩
  | [], _, s, at', more => by
    rw [scanF_end rfl]
    simp
  | c :: cs, h, s, at', more => by
    have hc := h c (by simp)
    have ih := scanF_print cs (fun x hx => h x (by simp [hx]))
    rw [List.flatMap_cons, List.append_assoc]
    have hp := part_escS hc (cs.flatMap escS ++ 34 :: more)
    rw [scanF_on (escS_head hc _).1 (by rw [hp]), hp]
    dsimp only
    rw [List.drop_left, ih, List.flatMap_cons, List.append_assoc, List.length_append]
    congr 1
    omega
theorem scan_print {s : List UInt8} (h : bad s = none) (more : List UInt8) : scan (print s ++ more) = ⟨s, (print s).length, 0⟩ := by
  obtain ⟨cs, h1, rfl⟩ := valid_cs s h
  unfold print
  rw [flat_esc]
  show scan (34 :: ((cs.flatMap escS ++ [34]) ++ more)) = _
  unfold scan
  dsimp only
  rw [if_neg (by simp), List.append_assoc]
  show scanF [] 1 (cs.flatMap escS ++ 34 :: more) = _
  rw [scanF_print cs h1]
  simp
  omega
theorem scanF_cut : ∀ (cs : List Nat), (∀ c ∈ cs, Scalar c) → ∀ (s : List UInt8) (at' j : Nat), j < (cs.flatMap escS).length + 1 → (scanF s at' ((cs.flatMap escS ++ [34]).take j)).e = 2 ∨ (scanF s at' ((cs.flatMap escS ++ [34]).take j)).e = 7
  | [], _, s, at', j, hj => by
    obtain rfl : j = 0 := by simpa using hj
    left
    rw [List.take_zero, scanF_err (by simp) (by decide)]
    rfl
  | c :: cs, h, s, at', j, hj => by
    have hc := h c (by simp)
    have ih := scanF_cut cs (fun x hx => h x (by simp [hx]))
    rw [List.flatMap_cons, List.append_assoc]
    rw [List.flatMap_cons, List.length_append] at hj
    by_cases hle : (escS c).length ≤ j
    · obtain ⟨i, rfl⟩ : ∃ i, j = (escS c).length + i := ⟨j - (escS c).length, by omega⟩
      rw [List.take_length_add_append]
      have hp := part_escS hc ((cs.flatMap escS ++ [34]).take i)
      rw [scanF_on (escS_head hc _).1 (by rw [hp]), hp]
      dsimp only
      rw [List.drop_left]
      exact ih _ _ i (by omega)
    · rw [List.take_append_of_le_length (by omega)]
      have hcut := part_cut hc (j := j) (by omega)
      have hh : ((escS c).take j).head? ≠ some 34 := by
        have := (escS_head hc []).1
        rw [List.append_nil] at this
        rw [List.head?_take]
        split
        · simp
        · exact this
      rw [scanF_err hh (by omega)]
      exact hcut
theorem scan_cut {s : List UInt8} (h : bad s = none) {k : Nat} (hk : k < (print s).length) : (scan ((print s).take k)).e = 2 ∨ (scan ((print s).take k)).e = 7 := by
  obtain ⟨cs, h1, rfl⟩ := valid_cs s h
  unfold print at hk ⊢
  rw [flat_esc] at hk ⊢
  match k, hk with
  | 0, _ => left; rfl
  | k + 1, hk =>
    rw [List.take_succ_cons]
    unfold scan
    dsimp only
    rw [if_neg (by simp)]
    exact scanF_cut cs h1 [] 1 k (by simpa using hk)
theorem print_inj {s t : List UInt8} (hs : bad s = none) (ht : bad t = none) (h : print s = print t) : s = t := by
  have h1 := scan_print hs []
  have h2 := scan_print ht []
  rw [h, h2] at h1
  injection h1 with h1
  exact h1.symm
theorem scan_ok {l : List UInt8} (h : (scan l).e = 0) : bad (scan l).s = none ∧ 0 < (scan l).size ∧ (scan l).size ≤ l.length := by
  match l, h with
  | [], h => cases h
  | c :: r, h =>
    unfold scan at h ⊢
    dsimp only at h ⊢
    by_cases hc : c ≠ 34
    · rw [if_pos hc] at h; cases h
    · rw [if_neg hc] at h ⊢
      have := scanF_ok r.length r rfl [] 1 (by unfold bad; rw [scan_nil]) h
      simp only [List.length_cons]
      exact ⟨this.1, by omega, by omega⟩
def parse (l : List UInt8) : List UInt8 × Nat := if (scan l).e ≠ 0 then ([], (scan l).e) else if (scan l).size < l.length then ([], 14) else ((scan l).s, 0)
theorem parse_print {s : List UInt8} (h : bad s = none) : parse (print s) = (s, 0) := by
  have h1 := scan_print h []
  rw [List.append_nil] at h1
  unfold parse
  rw [h1]
  dsimp only
  rw [if_neg (by simp), if_neg (by omega)]
end Go.Proofs.YtehpjidajmoggaaGreatDoor.Quo
