/- Facts of lists about decimal numbers: their values, which of two is the greater one, whole ones. Nothing is claimed here. -/
import Derived.Test.YtehpjidajmoggaaGreatDoorNumPrint
namespace Go.Proofs.YtehpjidajmoggaaGreatDoor.Num

/-- The value of digits from the lowest one on. -/
def valR : List UInt8 → Nat
  | [] => 0
  | c :: r => (c.toNat - 48) + 10 * valR r
theorem valD_rev (r : List UInt8) : valD r.reverse = valR r := by
  induction r with
  | nil => rfl
  | cons c r ih =>
    rw [List.reverse_cons, valD_snoc, ih]
    show valR r * 10 + (c.toNat - 48) = (c.toNat - 48) + 10 * valR r
    omega
theorem valD_eq (d : List UInt8) : valD d = valR d.reverse := by rw [← valD_rev, List.reverse_reverse]
theorem valR_lt (r : List UInt8) (h : ∀ c ∈ r, dg c = true) : valR r < 10 ^ r.length := by
  induction r with
  | nil => decide
  | cons c r ih =>
    have hc := dg_num (h c (by simp))
    have := ih (fun x hx => h x (by simp [hx]))
    rw [List.length_cons, Nat.pow_succ]
    show (c.toNat - 48) + 10 * valR r < _
    omega
theorem valR_app (r s : List UInt8) : valR (r ++ s) = valR r + 10 ^ r.length * valR s := by
  induction r with
  | nil => simp [valR]
  | cons c r ih =>
    show (c.toNat - 48) + 10 * valR (r ++ s) = (c.toNat - 48) + 10 * valR r + 10 ^ (r.length + 1) * valR s
    rw [ih, Nat.pow_succ, Nat.mul_comm (10 ^ r.length) 10, Nat.mul_assoc]
    omega
theorem valR_digit : ∀ (j : Nat) (r : List UInt8), (∀ c ∈ r, dg c = true) → valR r / 10 ^ j % 10 = nb r j - 48
  | _, [], _ => by rw [nb_nil]; simp [valR]
  | 0, c :: r, h => by
    have hc := dg_num (h c (by simp))
    show ((c.toNat - 48) + 10 * valR r) / 1 % 10 = c.toNat - 48
    omega
  | j + 1, c :: r, h => by
    have hc := dg_num (h c (by simp))
    have ih := valR_digit j r (fun x hx => h x (by simp [hx]))
    have e : valR (c :: r) / 10 = valR r := by
      show ((c.toNat - 48) + 10 * valR r) / 10 = valR r
      omega
    rw [Nat.pow_succ, Nat.mul_comm, ← Nat.div_div_eq_div_mul, e, ih]
    rfl
theorem nb_rev {d : List UInt8} {j : Nat} (h : j < d.length) : nb d.reverse j = nb d (d.length - 1 - j) := by
  unfold nb
  rw [List.getD_eq_getElem?_getD, List.getD_eq_getElem?_getD, List.getElem?_reverse h]
theorem valD_digit {d : List UInt8} (h : ∀ c ∈ d, dg c = true) (j : Nat) : valD d / 10 ^ j % 10 = nb d.reverse j - 48 := by
  rw [valD_eq]
  exact valR_digit j d.reverse (fun c hc => h c (List.mem_reverse.1 hc))
theorem valD_lt {d : List UInt8} (h : ∀ c ∈ d, dg c = true) : valD d < 10 ^ d.length := by
  rw [valD_eq]
  have := valR_lt d.reverse (fun c hc => h c (List.mem_reverse.1 hc))
  rwa [List.length_reverse] at this
theorem valR_inj : ∀ (r s : List UInt8), (∀ c ∈ r, dg c = true) → (∀ c ∈ s, dg c = true) → r.length = s.length → valR r = valR s → r = s
  | [], [], _, _, _, _ => rfl
  | [], _ :: _, _, _, h, _ => by simp at h
  | _ :: _, [], _, _, h, _ => by simp at h
  | c :: r, b :: s, hr, hs, hl, hv => by
    have hc := dg_num (hr c (by simp))
    have hb := dg_num (hs b (by simp))
    have hv' : (c.toNat - 48) + 10 * valR r = (b.toNat - 48) + 10 * valR s := hv
    have e1 : c = b := UInt8.toNat_inj.1 (by omega)
    have e2 := valR_inj r s (fun x hx => hr x (by simp [hx])) (fun x hx => hs x (by simp [hx])) (by simpa using hl) (by omega)
    rw [e1, e2]
theorem valD_ge {d : List UInt8} (h0 : d ≠ []) (h : ∀ c ∈ d, dg c = true) (hn : nb d 0 ≠ 48) : 10 ^ (d.length - 1) ≤ valD d := by
  obtain ⟨c, r, rfl⟩ := List.exists_cons_of_ne_nil h0
  have hc := dg_num (h c (by simp))
  rw [nb_zero] at hn
  rw [valD_eq, List.reverse_cons, valR_app, List.length_reverse, List.length_cons, Nat.add_sub_cancel]
  have e : valR [c] = c.toNat - 48 := by simp [valR]
  rw [e]
  have : 10 ^ r.length * 1 ≤ 10 ^ r.length * (c.toNat - 48) := Nat.mul_le_mul_left _ (by omega)
  omega
theorem valD_inj {a b : List UInt8} (ha0 : a ≠ []) (hb0 : b ≠ []) (ha : ∀ c ∈ a, dg c = true) (hb : ∀ c ∈ b, dg c = true) (hna : nb a 0 ≠ 48) (hnb : nb b 0 ≠ 48) (h : valD a = valD b) : a = b := by
  have la := List.length_pos_iff.2 ha0
  have lb := List.length_pos_iff.2 hb0
  have h1 := valD_ge ha0 ha hna
  have h2 := valD_ge hb0 hb hnb
  have h3 := valD_lt ha
  have h4 := valD_lt hb
  have p1 : 10 ^ (a.length - 1) < 10 ^ b.length := Nat.lt_of_le_of_lt h1 (by rw [h]; exact h4)
  have p2 : 10 ^ (b.length - 1) < 10 ^ a.length := Nat.lt_of_le_of_lt h2 (by rw [← h]; exact h3)
  have l1 : a.length - 1 < b.length := (Nat.pow_lt_pow_iff_right (by decide)).1 p1
  have l2 : b.length - 1 < a.length := (Nat.pow_lt_pow_iff_right (by decide)).1 p2
  have e := valR_inj a.reverse b.reverse (fun c hc => ha c (List.mem_reverse.1 hc)) (fun c hc => hb c (List.mem_reverse.1 hc)) (by simp; omega) (by rw [← valD_eq, ← valD_eq, h])
  have := congrArg List.reverse e
  simpa using this

/-- A number's size, counted in units of ten to the power -10000. -/
def V (n : Dec) : Nat := valD n.dig * 10 ^ (n.exp + 10000).toNat
theorem right_exp {n : Dec} (h : Right n) : -10000 ≤ n.exp ∧ n.exp ≤ 10000 ∧ n.dig.length ≤ 1000 ∧ (∀ c ∈ n.dig, dg c = true) := by
  unfold Right at h
  split at h
  · rename_i h0
    rw [h0, h.2]
    simp
  · exact ⟨h.2.1, h.2.2.1, h.1, h.2.2.2.1⟩
theorem V_lt {n : Dec} (h : Right n) {N : Nat} (hN : 21000 ≤ N) : V n < 10 ^ N := by
  obtain ⟨h1, h2, h3, h4⟩ := right_exp h
  unfold V
  have h5 := valD_lt h4
  refine Nat.lt_of_lt_of_le (Nat.mul_lt_mul_of_pos_right h5 (Nat.pow_pos (by omega))) ?_
  rw [← Nat.pow_add]
  exact Nat.pow_le_pow_right (by omega) (by omega)

/-- The digit at a power of ten. -/
def atN (n : Dec) (p : Int) : Nat :=
  if (n.dig.length : Int) - 1 - (p - n.exp) < 0 ∨ (n.dig.length : Int) ≤ (n.dig.length : Int) - 1 - (p - n.exp) then 48 else nb n.dig ((n.dig.length : Int) - 1 - (p - n.exp)).toNat
theorem at_val {n : Dec} (h : Right n) {p : Int} {q : Nat} (hp : p = (q : Int) - 10000) : atN n p = 48 + V n / 10 ^ q % 10 := by
  obtain ⟨h1, h2, h3, h4⟩ := right_exp h
  obtain ⟨e, he⟩ : ∃ e, (n.exp + 10000).toNat = e := ⟨_, rfl⟩
  have hx : n.exp = (e : Int) - 10000 := by omega
  unfold V atN
  rw [he]
  by_cases c1 : q < e
  · rw [if_pos (by omega)]
    have e1 : valD n.dig * 10 ^ e = valD n.dig * 10 ^ (e - q - 1) * 10 * 10 ^ q := by
      rw [Nat.mul_assoc, Nat.mul_assoc, ← Nat.pow_add_one', ← Nat.pow_add]
      congr 2
      omega
    rw [e1, Nat.mul_div_cancel _ (Nat.pow_pos (by omega)), Nat.mul_mod_left]
  · obtain ⟨j, hj⟩ : ∃ j, q - e = j := ⟨_, rfl⟩
    have e1 : valD n.dig * 10 ^ e / 10 ^ q = valD n.dig / 10 ^ j := by
      rw [show q = j + e by omega, Nat.pow_add, Nat.mul_div_mul_right _ _ (Nat.pow_pos (by omega))]
    rw [e1, valD_digit h4]
    by_cases c2 : j < n.dig.length
    · rw [if_neg (by omega), nb_rev c2, show ((n.dig.length : Int) - 1 - (p - n.exp)).toNat = n.dig.length - 1 - j by omega]
      have hlt : n.dig.length - 1 - j < n.dig.length := by omega
      have := (digAt_dg hlt).2 (h4 _ (List.getElem_mem hlt))
      unfold DigAt at this
      omega
    · rw [if_pos (by omega), nb_past (by rw [List.length_reverse]; omega)]

def cmpN (a b : Nat) : Int := if a < b then -1 else if b < a then 1 else 0
theorem cmp_lt {a b k : Nat} (h : a / 10 ^ (k + 1) = b / 10 ^ (k + 1)) (hd : a / 10 ^ k % 10 < b / 10 ^ k % 10) : cmpN a b = -1 ∧ cmpN b a = 1 := by
  have e1 : a / 10 ^ (k + 1) = a / 10 ^ k / 10 := by rw [Nat.pow_succ, Nat.div_div_eq_div_mul]
  have e2 : b / 10 ^ (k + 1) = b / 10 ^ k / 10 := by rw [Nat.pow_succ, Nat.div_div_eq_div_mul]
  have hlt : a / 10 ^ k < b / 10 ^ k := by omega
  have : a < b := by
    by_cases hab : a < b
    · exact hab
    · have := Nat.div_le_div_right (c := 10 ^ k) (show b ≤ a by omega)
      omega
  unfold cmpN
  rw [if_pos this, if_neg (show ¬ b < a by omega), if_pos this]
  exact ⟨rfl, rfl⟩
theorem cmp_eq {a b k : Nat} (h : a / 10 ^ (k + 1) = b / 10 ^ (k + 1)) (hd : a / 10 ^ k % 10 = b / 10 ^ k % 10) : a / 10 ^ k = b / 10 ^ k := by
  have e1 : a / 10 ^ (k + 1) = a / 10 ^ k / 10 := by rw [Nat.pow_succ, Nat.div_div_eq_div_mul]
  have e2 : b / 10 ^ (k + 1) = b / 10 ^ k / 10 := by rw [Nat.pow_succ, Nat.div_div_eq_div_mul]
  omega

/-- Which is the greater one. -/
def compare (a b : Dec) : Int :=
  if ¬ Right a ∨ ¬ Right b then 0
  else if a.neg = true ∧ b.neg = true then cmpN (V b) (V a)
  else if a.neg = true then -1 else if b.neg = true then 1 else cmpN (V a) (V b)
theorem compare_swap (a b : Dec) : compare b a = -compare a b := by
  unfold compare cmpN
  by_cases ha : Right a <;> by_cases hb : Right b <;> simp only [ha, hb, not_true, not_false_eq_true, or_self, or_true, true_or, if_true, if_false, Int.neg_zero]
  cases a.neg <;> cases b.neg <;> simp only [Bool.false_eq_true, and_self, and_true, and_false, if_true, if_false] <;> (repeat' split) <;> omega
theorem neg_pos {n : Dec} (h : Right n) (hn : n.dig ≠ []) : 0 < V n := by
  obtain ⟨_, h1, _, h3, _⟩ := right_head h hn
  have := valD_ge hn h3 h1
  unfold V
  exact Nat.mul_pos (Nat.lt_of_lt_of_le (Nat.pow_pos (by omega)) this) (Nat.pow_pos (by omega))
theorem neg_dig {n : Dec} (h : Right n) (hn : n.neg = true) : n.dig ≠ [] := by
  intro e
  unfold Right at h
  rw [if_pos e, hn] at h
  exact absurd h.1 (by decide)
theorem V_inj {a b : Dec} (ha : Right a) (hb : Right b) (hn : a.neg = b.neg) (h : V a = V b) : a = b := by
  by_cases a0 : a.dig = []
  · by_cases b0 : b.dig = []
    · unfold Right at ha hb
      rw [if_pos a0] at ha
      rw [if_pos b0] at hb
      cases a; cases b
      simp_all
    · have := neg_pos hb b0
      have e : V a = 0 := by unfold V; rw [a0]; simp [valD]
      omega
  · by_cases b0 : b.dig = []
    · have := neg_pos ha a0
      have e : V b = 0 := by unfold V; rw [b0]; simp [valD]
      omega
    · obtain ⟨_, a1, a2, a3, _, a4, _⟩ := right_head ha a0
      obtain ⟨_, b1, b2, b3, _, b4, _⟩ := right_head hb b0
      unfold V at h
      have last : ∀ (d : List UInt8), d ≠ [] → (∀ c ∈ d, dg c = true) → nb d (d.length - 1) ≠ 48 → valD d % 10 ≠ 0 := by
        intro d d0 hd hl
        have h1 := valD_digit hd 0
        rw [Nat.pow_zero, Nat.div_one, nb_rev (List.length_pos_iff.2 d0), Nat.sub_zero] at h1
        have hlt : d.length - 1 < d.length := by have := List.length_pos_iff.2 d0; omega
        have := (digAt_dg hlt).2 (hd _ (List.getElem_mem hlt))
        unfold DigAt at this
        omega
      have la := last _ a0 a3 a2
      have lb := last _ b0 b3 b2
      obtain ⟨x, hx⟩ : ∃ x, (a.exp + 10000).toNat = x := ⟨_, rfl⟩
      obtain ⟨y, hy⟩ : ∃ y, (b.exp + 10000).toNat = y := ⟨_, rfl⟩
      rw [hx, hy] at h
      have hxy : x = y := by
        rcases Nat.lt_trichotomy x y with c | c | c
        · exfalso
          rw [show y = (y - x - 1) + 1 + x by omega, Nat.pow_add, ← Nat.mul_assoc, Nat.pow_succ, ← Nat.mul_assoc] at h
          have := Nat.eq_of_mul_eq_mul_right (Nat.pow_pos (by omega)) h
          rw [this, Nat.mul_mod_left] at la
          exact la rfl
        · exact c
        · exfalso
          rw [show x = (x - y - 1) + 1 + y by omega, Nat.pow_add, ← Nat.mul_assoc, Nat.pow_succ, ← Nat.mul_assoc] at h
          have := Nat.eq_of_mul_eq_mul_right (Nat.pow_pos (by omega)) h
          rw [← this, Nat.mul_mod_left] at lb
          exact lb rfl
      rw [hxy] at h
      have hv := Nat.eq_of_mul_eq_mul_right (Nat.pow_pos (by omega)) h
      have hd := valD_inj a0 b0 a3 b3 a1 b1 hv
      have he : a.exp = b.exp := by omega
      cases a; cases b
      simp_all
theorem compare_zero {a b : Dec} (ha : Right a) (hb : Right b) (h : compare a b = 0) : a = b := by
  have p1 := fun e => neg_pos ha (neg_dig ha e)
  have p2 := fun e => neg_pos hb (neg_dig hb e)
  have inj := V_inj ha hb
  unfold compare cmpN at h
  simp only [ha, hb, not_true, or_self, if_false] at h
  cases hna : a.neg <;> cases hnb : b.neg <;> rw [hna, hnb] at inj <;> simp only [hna, hnb, Bool.false_eq_true, and_self, and_true, and_false, if_true, if_false] at h
  · exact inj rfl (by (repeat' split at h) <;> omega)
  · omega
  · omega
  · exact inj rfl (by (repeat' split at h) <;> omega)
theorem compare_trans {a b c : Dec} (ha : Right a) (hb : Right b) (hc : Right c) (h1 : compare a b ≤ 0) (h2 : compare b c ≤ 0) : compare a c ≤ 0 := by
  unfold compare cmpN at *
  simp only [ha, hb, hc, not_true, or_self, if_false] at *
  cases hna : a.neg <;> cases hnb : b.neg <;> cases hnc : c.neg <;> simp only [hna, hnb, hnc, Bool.false_eq_true, and_self, and_true, and_false, if_true, if_false] at * <;>
    (repeat' split at h1) <;> (repeat' split at h2) <;> (repeat' split) <;> omega

/-- A whole number of 64 bits. -/
def W (n : Dec) : Nat := valD n.dig * 10 ^ n.exp.toNat
def whole (n : Dec) : Nat × Bool :=
  if Right n ∧ n.neg = false ∧ 0 ≤ n.exp ∧ n.exp + n.dig.length ≤ 20 ∧ W n ≤ 18446744073709551615 then (W n, true) else (0, false)
theorem at_whole {n : Dec} (h : Right n) (h0 : 0 ≤ n.exp) (k : Nat) : atN n k = 48 + W n / 10 ^ k % 10 := by
  obtain ⟨Z, hZ⟩ : ∃ Z : Nat, Z = 10000 := ⟨_, rfl⟩
  rw [at_val h (q := k + Z) (by omega)]
  congr 2
  have e : V n = W n * 10 ^ Z := by
    unfold V W
    rw [Nat.mul_assoc, ← Nat.pow_add]
    congr 2
    omega
  rw [e, Nat.pow_add, Nat.mul_div_mul_right _ _ (Nat.pow_pos (by omega))]
theorem W_lt {n : Dec} (h : Right n) {N : Nat} (hN : n.exp + n.dig.length ≤ N) (h0 : 0 ≤ n.exp) : W n < 10 ^ N := by
  obtain ⟨h1, h2, h3, h4⟩ := right_exp h
  unfold W
  refine Nat.lt_of_lt_of_le (Nat.mul_lt_mul_of_pos_right (valD_lt h4) (Nat.pow_pos (by omega))) ?_
  rw [← Nat.pow_add]
  exact Nat.pow_le_pow_right (by omega) (by omega)

/-- The number of a whole number. -/
def ofN (v : Nat) : Dec := (parse (digits v)).1
theorem valR_zeros (k : Nat) (s : List UInt8) : valR (noughts k ++ s) = 10 ^ k * valR s := by
  rw [valR_app, noughts_len]
  have : ∀ k, valR (noughts k) = 0 := by
    intro k
    induction k with
    | zero => rfl
    | succ k ih =>
      show (48 - 48) + 10 * valR (noughts k) = 0
      rw [ih]
  rw [this]
  omega
theorem strip_val (d : List UInt8) (e : Int) : ∃ k : Nat, (strip d e).2 = e + k ∧ d = (strip d e).1 ++ noughts k ∧ valD d = valD (strip d e).1 * 10 ^ k := by
  have h1 : d.reverse.takeWhile z48 = noughts (d.reverse.takeWhile z48).length := by
    apply List.eq_replicate_iff.2
    refine ⟨rfl, fun c hc => ?_⟩
    have := List.all_eq_true.1 (List.all_takeWhile (l := d.reverse) (p := z48)) c hc
    simpa [z48] using this
  have h2 : d.reverse = noughts (d.reverse.takeWhile z48).length ++ d.reverse.dropWhile z48 := by
    rw [← h1]
    exact List.takeWhile_append_dropWhile.symm
  refine ⟨(d.reverse.takeWhile z48).length, rfl, ?_, ?_⟩
  · have := congrArg List.reverse h2
    rw [List.reverse_reverse, List.reverse_append] at this
    rw [show (noughts (d.reverse.takeWhile z48).length).reverse = noughts (d.reverse.takeWhile z48).length by simp [noughts]] at this
    exact this
  · rw [valD_eq d, h2, valR_zeros]
    show _ = valD (d.reverse.dropWhile z48).reverse * _
    rw [valD_rev, ← h2, Nat.mul_comm]
theorem parse_digits (v : Nat) : parse (digits v) = norm false ((digits v).dropWhile z48) 0 := by
  have hp := digits_parts v (F := []) (x := none) (by simp) (by simp)
  have := parse_text false hp (by simp)
  simpa [text, negT, fracT, expT, expV] using this
theorem strip_last (d : List UInt8) (e : Int) (h : (strip d e).1 ≠ []) : nb (strip d e).1 ((strip d e).1.length - 1) ≠ 48 := by
  have h1 : (strip d e).1 = (d.reverse.dropWhile z48).reverse := rfl
  rw [h1] at h ⊢
  obtain ⟨c, r, hc⟩ := List.exists_cons_of_ne_nil (show d.reverse.dropWhile z48 ≠ [] by simpa using h)
  have h2 : z48 c = false := by
    have := List.head?_dropWhile_not z48 d.reverse
    rw [hc] at this
    simpa using this
  rw [hc, List.reverse_cons]
  have := nb_app r.reverse [c] 0
  simp only [List.length_append, List.length_cons, List.length_nil, Nat.add_sub_cancel, Nat.zero_add]
  rw [Nat.add_zero] at this
  rw [this, nb_zero]
  intro e
  have : c = 48 := UInt8.toNat_inj.1 e
  subst this
  exact absurd h2 (by decide)
theorem ofN_whole {v : Nat} (h : v ≤ 18446744073709551615) : whole (ofN v) = (v, true) ∧ (parse (digits v)).2 = 0 := by
  unfold ofN
  rw [parse_digits]
  by_cases h0 : v = 0
  · subst h0
    rw [digits_zero]
    decide
  · rw [dropZ_head (digits_head v (by omega))]
    obtain ⟨k, e1, e2, e3⟩ := strip_val (digits v) 0
    rw [valD_digits] at e3
    have hl : (digits v).length ≤ 20 := digits_len v 20 (by omega) (by omega)
    have hne : (strip (digits v) 0).1 ≠ [] := by
      intro e
      rw [e] at e3
      simp [valD] at e3
      omega
    have hlast := strip_last (digits v) 0 hne
    have hhead := digits_head v (by omega)
    have hdg := digits_dg v
    obtain ⟨d, hd⟩ : ∃ d, (strip (digits v) 0).1 = d := ⟨_, rfl⟩
    rw [hd] at e2 e3 hne hlast
    have hR : Right ⟨false, d, k⟩ := by
      unfold Right
      rw [if_neg hne]
      have hlen := congrArg List.length e2
      rw [List.length_append, noughts_len] at hlen
      refine ⟨by dsimp only; omega, by dsimp only; omega, by dsimp only; omega, fun c hc => hdg c (by rw [e2]; exact List.mem_append_left _ hc), ?_, hlast⟩
      rw [e2] at hhead
      obtain ⟨c, r, rfl⟩ := List.exists_cons_of_ne_nil hne
      intro e
      apply hhead
      have : c = 48 := UInt8.toNat_inj.1 e
      rw [this]
      rfl
    have hn : norm false (digits v) 0 = (⟨false, d, k⟩, 0) := by
      unfold norm
      rw [hd, if_neg hne, e1, Int.zero_add, if_pos hR]
    rw [hn]
    refine ⟨?_, rfl⟩
    have hlen := congrArg List.length e2
    rw [List.length_append, noughts_len] at hlen
    have hW : W ⟨false, d, k⟩ = v := by unfold W; dsimp only; rw [Int.toNat_natCast]; exact e3.symm
    unfold whole
    rw [hW, if_pos ⟨hR, rfl, by dsimp only; omega, by dsimp only; omega, h⟩]
end Go.Proofs.YtehpjidajmoggaaGreatDoor.Num
