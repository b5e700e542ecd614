/- Numbers as bytes, as lists of numbers: how one is written, what bytes begin with, all numbers of bytes; pure facts. Nothing is claimed here. -/
namespace Go.Proofs.Ytkbdahbnjklkoaa.Var

def put (n : Nat) : List Nat := if n < 128 then [n] else (n % 128 + 128) :: put (n / 128)
termination_by n
decreasing_by omega

theorem put_lo {n : Nat} (h : n < 128) : put n = [n] := by rw [put, if_pos h]
theorem put_hi {n : Nat} (h : 128 ≤ n) : put n = (n % 128 + 128) :: put (n / 128) := by rw [put, if_neg (by omega)]

def getF (i acc : Nat) : List Nat → Nat × Nat × Nat
  | [] => (0, 0, 2)
  | b :: r => if (i = 9 ∧ (1 < b % 128 ∨ 128 ≤ b)) ∨ 9 < i then (0, 0, 4) else if b = 0 ∧ 0 < i then (0, 0, 3) else
    if b < 128 then (acc + b % 128 * 128 ^ i, i + 1, 0) else getF (i + 1) (acc + b % 128 * 128 ^ i) r

def get (l : List Nat) : Nat × Nat × Nat := getF 0 0 l

theorem getF_nil (i acc : Nat) : getF i acc [] = (0, 0, 2) := rfl
theorem getF_big {i acc b : Nat} {r : List Nat} (h : (i = 9 ∧ (1 < b % 128 ∨ 128 ≤ b)) ∨ 9 < i) : getF i acc (b :: r) = (0, 0, 4) := by rw [getF, if_pos h]
theorem getF_form {i acc b : Nat} {r : List Nat} (h : ¬ ((i = 9 ∧ (1 < b % 128 ∨ 128 ≤ b)) ∨ 9 < i)) (h0 : b = 0 ∧ 0 < i) : getF i acc (b :: r) = (0, 0, 3) := by rw [getF, if_neg h, if_pos h0]
theorem getF_last {i acc b : Nat} {r : List Nat} (h : ¬ ((i = 9 ∧ (1 < b % 128 ∨ 128 ≤ b)) ∨ 9 < i)) (h0 : ¬ (b = 0 ∧ 0 < i)) (h1 : b < 128) : getF i acc (b :: r) = (acc + b % 128 * 128 ^ i, i + 1, 0) := by
  rw [getF, if_neg h, if_neg h0, if_pos h1]
theorem getF_on {i acc b : Nat} {r : List Nat} (h : ¬ ((i = 9 ∧ (1 < b % 128 ∨ 128 ≤ b)) ∨ 9 < i)) (h0 : ¬ (b = 0 ∧ 0 < i)) (h1 : 128 ≤ b) : getF i acc (b :: r) = getF (i + 1) (acc + b % 128 * 128 ^ i) r := by
  rw [getF, if_neg h, if_neg h0, if_neg (by omega)]

theorem pow_tab {i : Nat} (h : i ≤ 9) : (i = 0 ∧ 128 ^ i = 1) ∨ (i = 1 ∧ 128 ^ i = 128) ∨ (i = 2 ∧ 128 ^ i = 16384) ∨ (i = 3 ∧ 128 ^ i = 2097152) ∨ (i = 4 ∧ 128 ^ i = 268435456) ∨ (i = 5 ∧ 128 ^ i = 34359738368) ∨
    (i = 6 ∧ 128 ^ i = 4398046511104) ∨ (i = 7 ∧ 128 ^ i = 562949953421312) ∨ (i = 8 ∧ 128 ^ i = 72057594037927936) ∨ (i = 9 ∧ 128 ^ i = 9223372036854775808) := by
  have : i = 0 ∨ i = 1 ∨ i = 2 ∨ i = 3 ∨ i = 4 ∨ i = 5 ∨ i = 6 ∨ i = 7 ∨ i = 8 ∨ i = 9 := by omega
  rcases this with rfl | rfl | rfl | rfl | rfl | rfl | rfl | rfl | rfl | rfl <;> simp

/-- What is added to so far stays below the next place; and below 2^64 in any case. -/
theorem acc_lt {i acc b : Nat} (_hi : i ≤ 8) (ha : acc < 128 ^ i) : acc + b % 128 * 128 ^ i < 128 ^ (i + 1) := by
  have hp : 128 ^ (i + 1) = 128 ^ i * 128 := Nat.pow_succ ..
  rw [hp]
  have hb : b % 128 + 1 ≤ 128 := by omega
  have h := Nat.mul_le_mul_right (128 ^ i) hb
  rw [Nat.add_mul, Nat.one_mul] at h
  rw [Nat.mul_comm (128 ^ i) 128]
  omega
theorem acc_64 {i acc b : Nat} (h : ¬ ((i = 9 ∧ (1 < b % 128 ∨ 128 ≤ b)) ∨ 9 < i)) (ha : acc < 128 ^ i) : acc + b % 128 * 128 ^ i < 18446744073709551616 := by
  by_cases hi : i ≤ 8
  · have h1 := acc_lt (b := b) hi ha
    have h2 : 128 ^ (i + 1) ≤ 128 ^ 9 := Nat.pow_le_pow_right (by omega) (by omega)
    have h3 : 128 ^ 9 = 9223372036854775808 := by decide
    omega
  · obtain rfl : i = 9 := by omega
    have h3 : 128 ^ 9 = 9223372036854775808 := by decide
    rw [h3] at *
    omega

theorem getF_lt : ∀ (l : List Nat) (i acc : Nat), acc < 128 ^ i → (getF i acc l).1 < 18446744073709551616
  | [], i, acc, _ => by rw [getF_nil]; decide
  | b :: r, i, acc, ha => by
    by_cases h : (i = 9 ∧ (1 < b % 128 ∨ 128 ≤ b)) ∨ 9 < i
    · rw [getF_big h]; decide
    by_cases h0 : b = 0 ∧ 0 < i
    · rw [getF_form h h0]; decide
    by_cases h1 : b < 128
    · rw [getF_last h h0 h1]; exact acc_64 h ha
    · rw [getF_on h h0 (by omega)]
      exact getF_lt r (i + 1) _ (acc_lt (by omega) ha)
theorem get_lt (l : List Nat) : (get l).1 < 18446744073709551616 := getF_lt l 0 0 (by decide)

/-- An error, or a number of so many bytes. -/
theorem getF_or : ∀ (l : List Nat) (i acc : Nat), ((getF i acc l).1 = 0 ∧ (getF i acc l).2.1 = 0 ∧ ((getF i acc l).2.2 = 2 ∨ (getF i acc l).2.2 = 3 ∨ (getF i acc l).2.2 = 4)) ∨ ((getF i acc l).2.2 = 0 ∧ i < (getF i acc l).2.1 ∧ (getF i acc l).2.1 ≤ i + l.length ∧ (getF i acc l).2.1 ≤ 10)
  | [], i, acc => by rw [getF_nil]; simp
  | b :: r, i, acc => by
    by_cases h : (i = 9 ∧ (1 < b % 128 ∨ 128 ≤ b)) ∨ 9 < i
    · rw [getF_big h]; simp
    by_cases h0 : b = 0 ∧ 0 < i
    · rw [getF_form h h0]; simp
    by_cases h1 : b < 128
    · rw [getF_last h h0 h1]; right; simp; omega
    · rw [getF_on h h0 (by omega)]
      have := getF_or r (i + 1) (acc + b % 128 * 128 ^ i)
      rw [List.length_cons]
      omega
theorem get_or (l : List Nat) : ((get l).1 = 0 ∧ (get l).2.1 = 0 ∧ ((get l).2.2 = 2 ∨ (get l).2.2 = 3 ∨ (get l).2.2 = 4)) ∨ ((get l).2.2 = 0 ∧ 0 < (get l).2.1 ∧ (get l).2.1 ≤ l.length ∧ (get l).2.1 ≤ 10) := by
  have := getF_or l 0 0
  unfold get
  omega

/-- What is written is read, whatever follows. -/
theorem getF_put : ∀ (n i acc : Nat) (more : List Nat), n * 128 ^ i < 18446744073709551616 → (i = 0 ∨ 0 < n) → getF i acc (put n ++ more) = (acc + n * 128 ^ i, i + (put n).length, 0) := by
  intro n
  induction n using Nat.strongRecOn with
  | ind n ih =>
    intro i acc more hn h0
    have hi : i ≤ 9 := by
      by_cases hi : i ≤ 9
      · exact hi
      · have h1 : 0 < n := by omega
        have h2 : 128 ^ 10 ≤ 128 ^ i := Nat.pow_le_pow_right (by omega) (by omega)
        have h3 : 128 ^ i ≤ n * 128 ^ i := Nat.le_mul_of_pos_left _ h1
        have h4 : 18446744073709551616 ≤ 128 ^ 10 := by decide
        omega
    have h9 : i = 9 → n ≤ 1 := by
      rintro rfl
      have h3 : 128 ^ 9 = 9223372036854775808 := by decide
      rw [h3] at hn
      omega
    by_cases hlt : n < 128
    · rw [put_lo hlt]
      have hm : n % 128 = n := by omega
      show getF i acc (n :: more) = _
      rw [getF_last (by omega) (by omega) hlt, hm]
      rfl
    · have hg : 128 ≤ n := by omega
      have h8 : i ≤ 8 := by omega
      rw [put_hi hg]
      show getF i acc ((n % 128 + 128) :: (put (n / 128) ++ more)) = _
      rw [getF_on (by omega) (by omega) (by omega)]
      have hm : (n % 128 + 128) % 128 = n % 128 := by omega
      have hp : 128 ^ (i + 1) = 128 ^ i * 128 := Nat.pow_succ ..
      have hq : n / 128 * 128 ^ (i + 1) + n % 128 * 128 ^ i = n * 128 ^ i := by
        rw [hp, Nat.mul_comm (128 ^ i) 128, ← Nat.mul_assoc, ← Nat.add_mul]
        congr 1
        omega
      rw [hm, ih (n / 128) (by omega) (i + 1) _ more (by omega) (by omega)]
      simp only [List.length_cons, Prod.mk.injEq, and_true]
      omega
theorem get_put {n : Nat} (h : n < 18446744073709551616) (more : List Nat) : get (put n ++ more) = (n, (put n).length, 0) := by
  have := getF_put n 0 0 more (by omega) (.inl rfl)
  unfold get
  rw [this]
  simp

/-- What is read is written in just these bytes. -/
theorem put_getF : ∀ (l : List Nat) (i acc : Nat), (∀ b ∈ l, b < 256) → (getF i acc l).2.2 = 0 → ∃ m, (getF i acc l).1 = acc + m * 128 ^ i ∧ put m = l.take ((getF i acc l).2.1 - i) ∧ (0 < i → 0 < m)
  | [], i, acc, _, h => by rw [getF_nil] at h; cases h
  | b :: r, i, acc, hl, h => by
    have hb := hl b (by simp)
    by_cases hb4 : (i = 9 ∧ (1 < b % 128 ∨ 128 ≤ b)) ∨ 9 < i
    · rw [getF_big hb4] at h; cases h
    by_cases h0 : b = 0 ∧ 0 < i
    · rw [getF_form hb4 h0] at h; cases h
    by_cases h1 : b < 128
    · rw [getF_last hb4 h0 h1]
      refine ⟨b, ?_, ?_, by omega⟩
      · have hm : b % 128 = b := by omega
        rw [hm]
      · rw [put_lo h1]
        show [b] = (b :: r).take (i + 1 - i)
        rw [show i + 1 - i = 1 by omega]
        rfl
    · rw [getF_on hb4 h0 (by omega)] at h ⊢
      obtain ⟨m, e1, e2, e3⟩ := put_getF r (i + 1) _ (fun x hx => hl x (by simp [hx])) h
      have hm := e3 (by omega)
      have hor := getF_or r (i + 1) (acc + b % 128 * 128 ^ i)
      have hs : i + 1 < (getF (i + 1) (acc + b % 128 * 128 ^ i) r).2.1 := by omega
      refine ⟨b % 128 + 128 * m, ?_, ?_, by omega⟩
      · rw [e1]
        have hp : 128 ^ (i + 1) = 128 ^ i * 128 := Nat.pow_succ ..
        rw [hp, Nat.add_mul, Nat.mul_comm (128 ^ i) 128, ← Nat.mul_assoc, Nat.mul_comm m 128]
        omega
      · rw [put_hi (by omega), show (b % 128 + 128 * m) / 128 = m by omega, show (b % 128 + 128 * m) % 128 + 128 = b by omega, e2]
        rw [show (getF (i + 1) (acc + b % 128 * 128 ^ i) r).2.1 - i = ((getF (i + 1) (acc + b % 128 * 128 ^ i) r).2.1 - (i + 1)) + 1 by omega]
        rfl
theorem put_get {l : List Nat} (hl : ∀ b ∈ l, b < 256) (h : (get l).2.2 = 0) : put (get l).1 = l.take (get l).2.1 := by
  obtain ⟨m, e1, e2, _⟩ := put_getF l 0 0 hl h
  unfold get
  rw [e1, Nat.pow_zero, Nat.mul_one, Nat.zero_add, e2, Nat.sub_zero]

theorem put_byte : ∀ (n : Nat), ∀ b ∈ put n, b < 256 := by
  intro n
  induction n using Nat.strongRecOn with
  | ind n ih =>
    by_cases h : n < 128
    · rw [put_lo h]; simp; omega
    · rw [put_hi (by omega)]
      intro b hb
      rcases List.mem_cons.1 hb with rfl | hb
      · omega
      · exact ih (n / 128) (by omega) b hb
theorem put_pos (n : Nat) : 1 ≤ (put n).length := by
  by_cases h : n < 128
  · rw [put_lo h]; simp
  · rw [put_hi (by omega)]; simp
theorem put_len {n : Nat} (h : n < 18446744073709551616) : (put n).length ≤ 10 := by
  have h1 := get_put h []
  have h2 := get_or (put n ++ [])
  rw [h1] at h2
  simp at h2
  omega

/-- The last byte, and those ahead of it. -/
theorem put_last : ∀ (n : Nat), ∃ p x, put n = p ++ [x] ∧ x < 128 ∧ (∀ b ∈ p, 128 ≤ b ∧ b < 256) := by
  intro n
  induction n using Nat.strongRecOn with
  | ind n ih =>
    by_cases h : n < 128
    · exact ⟨[], n, put_lo h, h, by simp⟩
    · obtain ⟨p, x, e, hx, hp⟩ := ih (n / 128) (by omega)
      refine ⟨(n % 128 + 128) :: p, x, by rw [put_hi (by omega), e]; rfl, hx, fun b hb => ?_⟩
      rcases List.mem_cons.1 hb with rfl | hb
      · omega
      · exact hp b hb
/-- Bytes that all go on. -/
theorem getF_run : ∀ (p : List Nat) (i acc : Nat) (r : List Nat), (∀ b ∈ p, 128 ≤ b) → i + p.length ≤ 9 → ∃ acc', getF i acc (p ++ r) = getF (i + p.length) acc' r
  | [], i, acc, r, _, _ => ⟨acc, rfl⟩
  | b :: p, i, acc, r, hp, hi => by
    have hb := hp b (by simp)
    rw [List.length_cons] at hi
    obtain ⟨acc', e⟩ := getF_run p (i + 1) (acc + b % 128 * 128 ^ i) r (fun x hx => hp x (by simp [hx])) (by omega)
    refine ⟨acc', ?_⟩
    show getF i acc (b :: (p ++ r)) = _
    rw [getF_on (by omega) (by omega) hb, e, List.length_cons]
    congr 1
    omega
/-- Cut short. -/
theorem get_cut {n k : Nat} (h : n < 18446744073709551616) (hk : k < (put n).length) : get ((put n).take k) = (0, 0, 2) := by
  obtain ⟨p, x, e, hx, hp⟩ := put_last n
  have hl := put_len h
  rw [e] at hk hl ⊢
  simp at hk hl
  rw [List.take_append_of_le_length (by omega)]
  obtain ⟨acc, e2⟩ := getF_run (p.take k) 0 0 [] (fun b hb => (hp b (List.mem_of_mem_take hb)).1) (by rw [List.length_take]; omega)
  rw [List.append_nil] at e2
  unfold get
  rw [e2]
  rfl
/-- Written longer than need be. -/
theorem get_long {n x : Nat} {p : List Nat} (h : n < 18446744073709551616) (e : put n = p ++ [x]) : (get (p ++ [x + 128, 0])).2.2 = 3 ∨ (put n).length = 10 ∧ (get (p ++ [x + 128, 0])).2.2 = 4 := by
  obtain ⟨p', x', e', hx, hp⟩ := put_last n
  have hl := put_len h
  rw [e'] at e
  obtain ⟨rfl, hxx⟩ := List.append_inj' e rfl
  simp at hxx
  subst hxx
  rw [e'] at hl ⊢
  simp at hl ⊢
  obtain ⟨acc, e2⟩ := getF_run p' 0 0 [x' + 128, 0] (fun b hb => (hp b hb).1) (by omega)
  unfold get
  rw [e2, Nat.zero_add]
  by_cases h9 : p'.length = 9
  · right
    exact ⟨h9, by rw [h9, getF_big (by omega)]⟩
  · left
    rw [getF_on (by omega) (by omega) (by omega), getF_form (by omega) (by omega)]

theorem put_inj_prefix {a b : Nat} (ha : a < 18446744073709551616) (hb : b < 18446744073709551616) : (put a = (put b).take (put a).length) ↔ a = b := by
  constructor
  · intro h
    have h1 := get_put ha ((put b).drop (put a).length)
    have h2 : put a ++ (put b).drop (put a).length = put b := by
      conv => lhs; rw [h]
      rw [List.length_take]
      by_cases hl : (put a).length ≤ (put b).length
      · rw [Nat.min_eq_left hl, List.take_append_drop]
      · rw [Nat.min_eq_right (by omega), List.take_of_length_le (by omega), List.drop_length, List.append_nil]
    rw [h2] at h1
    have h3 := get_put hb []
    rw [List.append_nil, h1] at h3
    exact congrArg Prod.fst h3
  · rintro rfl
    rw [List.take_length]
theorem put_mono : ∀ (b a : Nat), a ≤ b → (put a).length ≤ (put b).length := by
  intro b
  induction b using Nat.strongRecOn with
  | ind b ih =>
    intro a hab
    by_cases ha : a < 128
    · rw [put_lo ha]
      exact put_pos b
    · rw [put_hi (by omega), put_hi (n := b) (by omega), List.length_cons, List.length_cons]
      have := ih (b / 128) (by omega) (a / 128) (by omega)
      omega

def all (l : List Nat) : List Nat := if _h : (get l).2.2 = 0 then (get l).1 :: all (l.drop (get l).2.1) else []
termination_by l.length
decreasing_by
  have := get_or l
  rw [List.length_drop]
  omega

theorem all_stop {l : List Nat} (h : (get l).2.2 ≠ 0) : all l = [] := by rw [all, dif_neg h]
theorem all_on {l : List Nat} (h : (get l).2.2 = 0) : all l = (get l).1 :: all (l.drop (get l).2.1) := by rw [all, dif_pos h]
theorem all_len : ∀ (k : Nat) (l : List Nat), l.length = k → (all l).length ≤ l.length := by
  intro k
  induction k using Nat.strongRecOn with
  | ind k ih =>
    intro l hk
    by_cases h : (get l).2.2 = 0
    · have ho := get_or l
      rw [all_on h, List.length_cons]
      have := ih (l.drop (get l).2.1).length (by rw [List.length_drop]; omega) _ rfl
      rw [List.length_drop] at this
      omega
    · rw [all_stop h]; simp
theorem all_lt : ∀ (k : Nat) (l : List Nat), l.length = k → ∀ x ∈ all l, x < 18446744073709551616 := by
  intro k
  induction k using Nat.strongRecOn with
  | ind k ih =>
    intro l hk x hx
    by_cases h : (get l).2.2 = 0
    · have ho := get_or l
      rw [all_on h] at hx
      rcases List.mem_cons.1 hx with rfl | hx
      · exact get_lt l
      · exact ih (l.drop (get l).2.1).length (by rw [List.length_drop]; omega) _ rfl x hx
    · rw [all_stop h] at hx; simp at hx
theorem all_puts : ∀ (ns : List Nat), (∀ n ∈ ns, n < 18446744073709551616) → all (ns.flatMap put) = ns
  | [], _ => by
    rw [List.flatMap_nil, all_stop]
    decide
  | n :: ns, h => by
    have hn := h n (by simp)
    have hg := get_put hn (ns.flatMap put)
    rw [List.flatMap_cons, all_on (by rw [hg]), hg]
    simp only [List.drop_left]
    rw [all_puts ns (fun x hx => h x (by simp [hx]))]
end Go.Proofs.Ytkbdahbnjklkoaa.Var
