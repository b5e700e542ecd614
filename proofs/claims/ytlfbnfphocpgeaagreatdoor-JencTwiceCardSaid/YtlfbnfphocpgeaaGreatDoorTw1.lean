/- A part of what twice_holds leans on (its texts, put together). Nothing is claimed here. -/
import Derived.Test.YtlfbnfphocpgeaaGreatDoorTw0
namespace Go.Proofs.YtlfbnfphocpgeaaGreatDoor.Utf
def nb (l : List UInt8) (i : Nat) : Nat := (l.getD i 0).toNat
theorem nb_lt (l : List UInt8) (i : Nat) : nb l i < 256 := (l.getD i 0).toNat_lt
theorem of_nb (l : List UInt8) (i : Nat) {x : Nat} (h : x = nb l i) : UInt8.ofNat x = l.getD i 0 := by rw [h, nb]; exact UInt8.ofNat_toNat
def one (l : List UInt8) : Nat × Nat :=
  if 1 ≤ l.length ∧ nb l 0 < 128 then (nb l 0, 1)
  else if 2 ≤ l.length ∧ 194 ≤ nb l 0 ∧ nb l 0 ≤ 223 ∧ 128 ≤ nb l 1 ∧ nb l 1 ≤ 191 then ((nb l 0 - 192) * 64 + (nb l 1 - 128), 2)
  else if 3 ≤ l.length ∧ 224 ≤ nb l 0 ∧ nb l 0 ≤ 239 ∧ 128 ≤ nb l 1 ∧ nb l 1 ≤ 191 ∧ 128 ≤ nb l 2 ∧ nb l 2 ≤ 191 ∧ (nb l 0 = 224 → 160 ≤ nb l 1) ∧ (nb l 0 = 237 → nb l 1 < 160) then
    ((nb l 0 - 224) * 4096 + (nb l 1 - 128) * 64 + (nb l 2 - 128), 3)
  else if 4 ≤ l.length ∧ 240 ≤ nb l 0 ∧ nb l 0 ≤ 244 ∧ 128 ≤ nb l 1 ∧ nb l 1 ≤ 191 ∧ 128 ≤ nb l 2 ∧ nb l 2 ≤ 191 ∧ 128 ≤ nb l 3 ∧ nb l 3 ≤ 191 ∧ (nb l 0 = 240 → 144 ≤ nb l 1) ∧ (nb l 0 = 244 → nb l 1 < 144) then
    ((nb l 0 - 240) * 262144 + (nb l 1 - 128) * 4096 + (nb l 2 - 128) * 64 + (nb l 3 - 128), 4)
  else (0, 0)
def encN (c : Nat) : List Nat :=
  if c < 128 then [c]
  else if c < 2048 then [192 + c / 64, 128 + c % 64]
  else if c < 65536 then [224 + c / 4096, 128 + c / 64 % 64, 128 + c % 64]
  else [240 + c / 262144, 128 + c / 4096 % 64, 128 + c / 64 % 64, 128 + c % 64]
def enc (c : Nat) : List UInt8 := (encN c).map UInt8.ofNat
def Scalar (c : Nat) : Prop := c ≤ 1114111 ∧ (c < 55296 ∨ 57343 < c)
instance (c : Nat) : Decidable (Scalar c) := by unfold Scalar; exact inferInstance
theorem take1 {l : List UInt8} (h : 1 ≤ l.length) : l.take 1 = [l.getD 0 0] := by
  match l, h with
  | a :: _, _ => simp
theorem take2 {l : List UInt8} (h : 2 ≤ l.length) : l.take 2 = [l.getD 0 0, l.getD 1 0] := by
  match l, h with
  | a :: b :: _, _ => simp
theorem take3 {l : List UInt8} (h : 3 ≤ l.length) : l.take 3 = [l.getD 0 0, l.getD 1 0, l.getD 2 0] := by
  match l, h with
  | a :: b :: c :: _, _ => simp
theorem take4 {l : List UInt8} (h : 4 ≤ l.length) : l.take 4 = [l.getD 0 0, l.getD 1 0, l.getD 2 0, l.getD 3 0] := by
  match l, h with
  | a :: b :: c :: d :: _, _ => simp
theorem enc_kinds {c : Nat} (hc : Scalar c) :
    (c < 128 ∧ enc c = [.ofNat c]) ∨ (128 ≤ c ∧ c < 2048 ∧ enc c = [.ofNat (192 + c / 64), .ofNat (128 + c % 64)]) ∨
    (2048 ≤ c ∧ c < 65536 ∧ enc c = [.ofNat (224 + c / 4096), .ofNat (128 + c / 64 % 64), .ofNat (128 + c % 64)]) ∨
    (65536 ≤ c ∧ c ≤ 1114111 ∧ enc c = [.ofNat (240 + c / 262144), .ofNat (128 + c / 4096 % 64), .ofNat (128 + c / 64 % 64), .ofNat (128 + c % 64)]) := by
  unfold Scalar at hc
  unfold enc encN
  by_cases h1 : c < 128
  · simp [h1]
  by_cases h2 : c < 2048
  · simp [h1, h2]; omega
  by_cases h3 : c < 65536
  · simp [h1, h2, h3]; omega
  · simp [h1, h2, h3]; omega
theorem enc_len {c : Nat} : 1 ≤ (enc c).length ∧ (enc c).length ≤ 4 := by
  unfold enc encN
  split
  · simp
  split
  · simp
  split <;> simp
theorem one_bytes {l : List UInt8} (h : (one l).2 ≠ 0) : Scalar (one l).1 ∧ l.take (one l).2 = enc (one l).1 ∧ (one l).2 ≤ l.length := by
  have b0 := nb_lt l 0
  have b1 := nb_lt l 1
  have b2 := nb_lt l 2
  have b3 := nb_lt l 3
  by_cases c1 : 1 ≤ l.length ∧ nb l 0 < 128
  · have e : one l = (nb l 0, 1) := by unfold one; rw [if_pos c1]
    rw [e]
    refine ⟨by unfold Scalar; dsimp only; omega, ?_, c1.1⟩
    have : encN (nb l 0) = [nb l 0] := by unfold encN; rw [if_pos c1.2]
    rw [take1 c1.1, enc, this]
    simp only [List.map_cons, List.map_nil, of_nb l 0 rfl]
  by_cases c2 : 2 ≤ l.length ∧ 194 ≤ nb l 0 ∧ nb l 0 ≤ 223 ∧ 128 ≤ nb l 1 ∧ nb l 1 ≤ 191
  · have e : one l = ((nb l 0 - 192) * 64 + (nb l 1 - 128), 2) := by unfold one; rw [if_neg c1, if_pos c2]
    rw [e]
    refine ⟨by unfold Scalar; dsimp only; omega, ?_, c2.1⟩
    have h1 : ¬ (nb l 0 - 192) * 64 + (nb l 1 - 128) < 128 := by omega
    have h2 : (nb l 0 - 192) * 64 + (nb l 1 - 128) < 2048 := by omega
    dsimp only
    rw [take2 c2.1, enc, encN, if_neg h1, if_pos h2]
    simp only [List.map_cons, List.map_nil]
    rw [of_nb l 0 (by omega), of_nb l 1 (by omega)]
  by_cases c3 : 3 ≤ l.length ∧ 224 ≤ nb l 0 ∧ nb l 0 ≤ 239 ∧ 128 ≤ nb l 1 ∧ nb l 1 ≤ 191 ∧ 128 ≤ nb l 2 ∧ nb l 2 ≤ 191 ∧ (nb l 0 = 224 → 160 ≤ nb l 1) ∧ (nb l 0 = 237 → nb l 1 < 160)
  · have e : one l = ((nb l 0 - 224) * 4096 + (nb l 1 - 128) * 64 + (nb l 2 - 128), 3) := by unfold one; rw [if_neg c1, if_neg c2, if_pos c3]
    rw [e]
    refine ⟨by unfold Scalar; dsimp only; omega, ?_, c3.1⟩
    have h1 : ¬ (nb l 0 - 224) * 4096 + (nb l 1 - 128) * 64 + (nb l 2 - 128) < 128 := by omega
    have h2 : ¬ (nb l 0 - 224) * 4096 + (nb l 1 - 128) * 64 + (nb l 2 - 128) < 2048 := by omega
    have h3 : (nb l 0 - 224) * 4096 + (nb l 1 - 128) * 64 + (nb l 2 - 128) < 65536 := by omega
    dsimp only
    rw [take3 c3.1, enc, encN, if_neg h1, if_neg h2, if_pos h3]
    simp only [List.map_cons, List.map_nil]
    rw [of_nb l 0 (by omega), of_nb l 1 (by omega), of_nb l 2 (by omega)]
  by_cases c4 : 4 ≤ l.length ∧ 240 ≤ nb l 0 ∧ nb l 0 ≤ 244 ∧ 128 ≤ nb l 1 ∧ nb l 1 ≤ 191 ∧ 128 ≤ nb l 2 ∧ nb l 2 ≤ 191 ∧ 128 ≤ nb l 3 ∧ nb l 3 ≤ 191 ∧ (nb l 0 = 240 → 144 ≤ nb l 1) ∧ (nb l 0 = 244 → nb l 1 < 144)
  · have e : one l = ((nb l 0 - 240) * 262144 + (nb l 1 - 128) * 4096 + (nb l 2 - 128) * 64 + (nb l 3 - 128), 4) := by unfold one; rw [if_neg c1, if_neg c2, if_neg c3, if_pos c4]
    rw [e]
    refine ⟨by unfold Scalar; dsimp only; omega, ?_, c4.1⟩
    have h1 : ¬ (nb l 0 - 240) * 262144 + (nb l 1 - 128) * 4096 + (nb l 2 - 128) * 64 + (nb l 3 - 128) < 128 := by omega
    have h2 : ¬ (nb l 0 - 240) * 262144 + (nb l 1 - 128) * 4096 + (nb l 2 - 128) * 64 + (nb l 3 - 128) < 2048 := by omega
    have h3 : ¬ (nb l 0 - 240) * 262144 + (nb l 1 - 128) * 4096 + (nb l 2 - 128) * 64 + (nb l 3 - 128) < 65536 := by omega
    dsimp only
    rw [take4 c4.1, enc, encN, if_neg h1, if_neg h2, if_neg h3]
    simp only [List.map_cons, List.map_nil]
    rw [of_nb l 0 (by omega), of_nb l 1 (by omega), of_nb l 2 (by omega), of_nb l 3 (by omega)]
  · exfalso
    apply h
    unfold one
    rw [if_neg c1, if_neg c2, if_neg c3, if_neg c4]
theorem nbc {x : Nat} (h : x < 256) : (UInt8.ofNat x).toNat = x := by
  simp [UInt8.toNat_ofNat']; omega
theorem one_enc {c : Nat} (hc : Scalar c) (r : List UInt8) : one (enc c ++ r) = (c, (enc c).length) := by
  have hc' := hc
  unfold Scalar at hc'
  rcases enc_kinds hc with ⟨h1, e⟩ | ⟨h1, h2, e⟩ | ⟨h1, h2, e⟩ | ⟨h1, h2, e⟩
  · rw [e]
    have n0 : nb ([UInt8.ofNat c] ++ r) 0 = c := by simp only [nb, List.cons_append, List.getD_cons_zero]; exact nbc (by omega)
    unfold one
    rw [n0, if_pos ⟨by simp, h1⟩]
    rfl
  · rw [e]
    generalize hl : [UInt8.ofNat (192 + c / 64), UInt8.ofNat (128 + c % 64)] ++ r = l
    have n0 : nb l 0 = 192 + c / 64 := by rw [← hl]; simp only [nb, List.cons_append, List.getD_cons_zero]; exact nbc (by omega)
    have n1 : nb l 1 = 128 + c % 64 := by rw [← hl]; simp only [nb, List.cons_append, List.getD_cons_zero, List.getD_cons_succ]; exact nbc (by omega)
    have len : 2 ≤ l.length := by rw [← hl]; simp
    unfold one
    rw [n0, n1, if_neg (by omega), if_pos ⟨len, by omega, by omega, by omega, by omega⟩]
    exact Prod.ext (by dsimp only; omega) rfl
  · rw [e]
    generalize hl : [UInt8.ofNat (224 + c / 4096), UInt8.ofNat (128 + c / 64 % 64), UInt8.ofNat (128 + c % 64)] ++ r = l
    have n0 : nb l 0 = 224 + c / 4096 := by rw [← hl]; simp only [nb, List.cons_append, List.getD_cons_zero]; exact nbc (by omega)
    have n1 : nb l 1 = 128 + c / 64 % 64 := by rw [← hl]; simp only [nb, List.cons_append, List.getD_cons_zero, List.getD_cons_succ]; exact nbc (by omega)
    have n2 : nb l 2 = 128 + c % 64 := by rw [← hl]; simp only [nb, List.cons_append, List.getD_cons_zero, List.getD_cons_succ]; exact nbc (by omega)
    have len : 3 ≤ l.length := by rw [← hl]; simp
    unfold one
    rw [n0, n1, n2, if_neg (by omega), if_neg (by omega), if_pos ⟨len, by omega, by omega, by omega, by omega, by omega, by omega, by omega, by omega⟩]
    exact Prod.ext (by dsimp only; omega) rfl
  · rw [e]
    generalize hl : [UInt8.ofNat (240 + c / 262144), UInt8.ofNat (128 + c / 4096 % 64), UInt8.ofNat (128 + c / 64 % 64), UInt8.ofNat (128 + c % 64)] ++ r = l
    have n0 : nb l 0 = 240 + c / 262144 := by rw [← hl]; simp only [nb, List.cons_append, List.getD_cons_zero]; exact nbc (by omega)
    have n1 : nb l 1 = 128 + c / 4096 % 64 := by rw [← hl]; simp only [nb, List.cons_append, List.getD_cons_zero, List.getD_cons_succ]; exact nbc (by omega)
    have n2 : nb l 2 = 128 + c / 64 % 64 := by rw [← hl]; simp only [nb, List.cons_append, List.getD_cons_zero, List.getD_cons_succ]; exact nbc (by omega)
    have n3 : nb l 3 = 128 + c % 64 := by rw [← hl]; simp only [nb, List.cons_append, List.getD_cons_zero, List.getD_cons_succ]; exact nbc (by omega)
    have len : 4 ≤ l.length := by rw [← hl]; simp
    unfold one
    rw [n0, n1, n2, n3, if_neg (by omega), if_neg (by omega), if_neg (by omega), if_pos ⟨len, by omega, by omega, by omega, by omega, by omega, by omega, by omega, by omega, by omega, by omega⟩]
    exact Prod.ext (by dsimp only; omega) rfl
theorem one_of_take {c n : Nat} (hc : Scalar c) {l : List UInt8} (h : l.take n = enc c) (hn : n ≤ l.length) : one l = (c, n) := by
  have e : l = enc c ++ l.drop n := by rw [← h]; exact (List.take_append_drop n l).symm
  have hl : (enc c).length = n := by rw [← h, List.length_take]; omega
  rw [e, one_enc hc, hl]

/-! ### The scalars of a list, and where it goes wrong -/
def scan (p : Nat) (l : List UInt8) : List (Nat × Nat) × Option Nat :=
  if l = [] then ([], none)
  else if (one l).2 = 0 then ([], some p)
  else ((p, (one l).1) :: (scan (p + (one l).2) (l.drop (one l).2)).1, (scan (p + (one l).2) (l.drop (one l).2)).2)
termination_by l.length
decreasing_by
  all_goals
    have := List.length_pos_iff.2 (show l ≠ [] by assumption)
    simp only [List.length_drop]
    omega
def all (l : List UInt8) : List (Nat × Nat) := (scan 0 l).1
def bad (l : List UInt8) : Option Nat := (scan 0 l).2
def badI (l : List UInt8) : Int := match bad l with
  | none => -1
  | some p => p
theorem scan_nil (p : Nat) : scan p [] = ([], none) := by rw [scan]; simp
theorem scan_bad {p : Nat} {l : List UInt8} (h : l ≠ []) (h0 : (one l).2 = 0) : scan p l = ([], some p) := by rw [scan, if_neg h, if_pos h0]
theorem scan_step {p : Nat} {l : List UInt8} (h : l ≠ []) (h0 : (one l).2 ≠ 0) :
    scan p l = ((p, (one l).1) :: (scan (p + (one l).2) (l.drop (one l).2)).1, (scan (p + (one l).2) (l.drop (one l).2)).2) := by
  conv => lhs; rw [scan, if_neg h, if_neg h0]
theorem scan_enc {p c : Nat} (hc : Scalar c) (r : List UInt8) :
    scan p (enc c ++ r) = ((p, c) :: (scan (p + (enc c).length) r).1, (scan (p + (enc c).length) r).2) := by
  have h1 := enc_len (c := c)
  have hne : enc c ++ r ≠ [] := fun e => by have := congrArg List.length e; simp only [List.length_append, List.length_nil] at this; omega
  rw [scan_step hne (by rw [one_enc hc]; dsimp only; omega), one_enc hc]
  simp
theorem scan_cases (l : List UInt8) : l = [] ∨ (l ≠ [] ∧ (one l).2 = 0) ∨ ∃ c r, Scalar c ∧ l = enc c ++ r ∧ (one l) = (c, (enc c).length) ∧ r.length < l.length := by
  by_cases h : l = []
  · exact .inl h
  by_cases h0 : (one l).2 = 0
  · exact .inr (.inl ⟨h, h0⟩)
  · obtain ⟨h1, h2, h3⟩ := one_bytes h0
    have e : l = enc (one l).1 ++ l.drop (one l).2 := by rw [← h2]; exact (List.take_append_drop _ l).symm
    refine .inr (.inr ⟨(one l).1, l.drop (one l).2, h1, e, ?_, ?_⟩)
    · have hl : (enc (one l).1).length = (one l).2 := by rw [← h2, List.length_take]; omega
      rw [hl]
    · have := List.length_pos_iff.2 h
      simp only [List.length_drop]; omega
theorem scan_ind {M : List UInt8 → Prop} (h0 : M []) (hb : ∀ l, l ≠ [] → (one l).2 = 0 → M l) (hs : ∀ c r, Scalar c → M r → M (enc c ++ r)) : ∀ l, M l := by
  suffices ∀ n l, l.length ≤ n → M l from fun l => this l.length l (Nat.le_refl _)
  intro n
  induction n with
  | zero =>
    intro l hl
    obtain rfl : l = [] := List.length_eq_zero_iff.1 (by omega)
    exact h0
  | succ n ih =>
    intro l hl
    rcases scan_cases l with rfl | ⟨h1, h2⟩ | ⟨c, r, hc, rfl, _, hr⟩
    · exact h0
    · exact hb l h1 h2
    · exact hs c r hc (ih r (by omega))
theorem scan_shift (l : List UInt8) : ∀ p q, scan (p + q) l = ((scan p l).1.map (fun x => (x.1 + q, x.2)), (scan p l).2.map (· + q)) := by
  refine scan_ind (M := fun l => ∀ p q, scan (p + q) l = ((scan p l).1.map (fun x => (x.1 + q, x.2)), (scan p l).2.map (· + q))) ?_ ?_ ?_ l
  · intro p q; simp [scan_nil]
  · intro l h1 h2 p q; simp [scan_bad h1 h2]
  · intro c r hc ih p q
    rw [scan_enc hc, scan_enc hc]
    have := ih (p + (enc c).length) q
    rw [show p + q + (enc c).length = p + (enc c).length + q by omega, this]
    simp
theorem scan_append (a b : List UInt8) : ∀ p, (scan p a).2 = none → scan p (a ++ b) = ((scan p a).1 ++ (scan (p + a.length) b).1, (scan (p + a.length) b).2) := by
  refine scan_ind (M := fun a => ∀ p, (scan p a).2 = none → scan p (a ++ b) = ((scan p a).1 ++ (scan (p + a.length) b).1, (scan (p + a.length) b).2)) ?_ ?_ ?_ a
  · intro p _; simp [scan_nil]
  · intro l h1 h2 p h; simp [scan_bad h1 h2] at h
  · intro c r hc ih p h
    rw [scan_enc hc] at h ⊢
    rw [List.append_assoc, scan_enc hc, ih _ h, List.length_append, ← Nat.add_assoc]
    simp
theorem scan_len (l : List UInt8) : ∀ p, (scan p l).1.length ≤ l.length := by
  refine scan_ind (M := fun l => ∀ p, (scan p l).1.length ≤ l.length) ?_ ?_ ?_ l
  · intro p; simp [scan_nil]
  · intro l h1 h2 p; simp [scan_bad h1 h2]
  · intro c r hc ih p
    rw [scan_enc hc]
    have h1 := enc_len (c := c)
    have := ih (p + (enc c).length)
    simp only [List.length_cons, List.length_append]; omega
theorem scan_one {c : Nat} (hc : Scalar c) : scan 0 (enc c) = ([(0, c)], none) := by
  have := scan_enc (p := 0) hc []
  rw [List.append_nil, scan_nil] at this
  exact this
theorem badI_neg (l : List UInt8) : badI l < 0 ↔ bad l = none := by
  unfold badI
  cases bad l with
  | none => simp
  | some p => simp

/-! ### The order -/
def lessN : List Nat → List Nat → Bool
  | _, [] => false
  | [], _ :: _ => true
  | a :: x, b :: y => a < b || (a == b && lessN x y)
theorem bytesLess_lessN : ∀ a b : List UInt8, Op.bytesLess a b = lessN (a.map UInt8.toNat) (b.map UInt8.toNat)
  | [], [] => by simp [Op.bytesLess, lessN]
  | _ :: _, [] => by simp [Op.bytesLess, lessN]
  | [], _ :: _ => by simp [Op.bytesLess, lessN]
  | a :: x, b :: y => by
    simp only [Op.bytesLess, List.map_cons, lessN, bytesLess_lessN x y]
    congr 1
    congr 1
    rw [Bool.eq_iff_iff]
    simp [UInt8.toNat_inj]
theorem lessN_append (u : List Nat) : ∀ x y, lessN (u ++ x) (u ++ y) = lessN x y := by
  induction u with
  | nil => intro x y; rfl
  | cons a u ih => intro x y; simp [lessN, ih]
theorem enc_toNat {c : Nat} (hc : Scalar c) : (enc c).map UInt8.toNat = encN c := by
  have hc' := hc
  unfold Scalar at hc'
  unfold enc encN
  split
  · simp; omega
  split
  · simp; omega
  split
  · simp; omega
  · simp; omega
theorem encN_kinds {c : Nat} (hc : Scalar c) :
    (c < 128 ∧ encN c = [c]) ∨ (128 ≤ c ∧ c < 2048 ∧ encN c = [192 + c / 64, 128 + c % 64]) ∨
    (2048 ≤ c ∧ c < 65536 ∧ encN c = [224 + c / 4096, 128 + c / 64 % 64, 128 + c % 64]) ∨
    (65536 ≤ c ∧ c ≤ 1114111 ∧ encN c = [240 + c / 262144, 128 + c / 4096 % 64, 128 + c / 64 % 64, 128 + c % 64]) := by
  unfold Scalar at hc
  unfold encN
  by_cases h1 : c < 128
  · simp [h1]
  by_cases h2 : c < 2048
  · simp [h1, h2]; omega
  by_cases h3 : c < 65536
  · simp [h1, h2, h3]; omega
  · simp [h1, h2, h3]; omega
theorem lessN_enc {c d : Nat} (hc : Scalar c) (hd : Scalar d) (hne : c ≠ d) (x y : List Nat) : lessN (encN c ++ x) (encN d ++ y) = decide (c < d) := by
  rcases encN_kinds hc with ⟨h1, e⟩ | ⟨h1, h2, e⟩ | ⟨h1, h2, e⟩ | ⟨h1, h2, e⟩ <;>
  rcases encN_kinds hd with ⟨k1, f⟩ | ⟨k1, k2, f⟩ | ⟨k1, k2, f⟩ | ⟨k1, k2, f⟩ <;>
  (rw [e, f, Bool.eq_iff_iff]; simp only [List.cons_append, List.nil_append, lessN, Bool.or_eq_true, Bool.and_eq_true, beq_iff_eq, decide_eq_true_eq]; omega)
theorem order (a : List UInt8) : ∀ b p q, (scan p a).2 = none → (scan q b).2 = none →
    Op.bytesLess a b = lessN ((scan p a).1.map (·.2)) ((scan q b).1.map (·.2)) ∧ (a = b ↔ (scan p a).1.map (·.2) = (scan q b).1.map (·.2)) := by
  refine scan_ind (M := fun a => ∀ b p q, (scan p a).2 = none → (scan q b).2 = none →
    Op.bytesLess a b = lessN ((scan p a).1.map (·.2)) ((scan q b).1.map (·.2)) ∧ (a = b ↔ (scan p a).1.map (·.2) = (scan q b).1.map (·.2))) ?_ ?_ ?_ a
  · intro b p q _ hb
    rw [scan_nil]
    rcases scan_cases b with rfl | ⟨h1, h2⟩ | ⟨d, s, hd, rfl, _, _⟩
    · simp [scan_nil, Op.bytesLess, lessN]
    · rw [scan_bad h1 h2] at hb; cases hb
    · rw [scan_enc hd]
      have h1 := enc_len (c := d)
      generalize hh : enc d = e at h1
      cases e with
      | nil => simp at h1
      | cons z e => simp [Op.bytesLess, lessN]
  · intro l h1 h2 b p q h
    rw [scan_bad h1 h2] at h; cases h
  · intro c r hc ih b p q ha hb
    rw [scan_enc hc] at ha ⊢
    rcases scan_cases b with rfl | ⟨h1, h2⟩ | ⟨d, s, hd, rfl, _, _⟩
    · rw [scan_nil]
      have h1 := enc_len (c := c)
      generalize hh : enc c = e at h1
      cases e with
      | nil => simp at h1
      | cons z e => simp [Op.bytesLess, lessN]
    · rw [scan_bad h1 h2] at hb; cases hb
    · rw [scan_enc hd] at hb ⊢
      by_cases hcd : c = d
      · subst hcd
        obtain ⟨i1, i2⟩ := ih s (p + (enc c).length) (q + (enc c).length) ha hb
        refine ⟨?_, ?_⟩
        · rw [bytesLess_lessN] at i1 ⊢
          rw [List.map_append, List.map_append, lessN_append, i1]
          simp [lessN]
        · simp [i2]
      · refine ⟨?_, ?_⟩
        · rw [bytesLess_lessN, List.map_append, List.map_append, enc_toNat hc, enc_toNat hd, lessN_enc hc hd hcd]
          simp [lessN, hcd]
        · simp only [List.map_cons, List.cons.injEq, hcd, false_and, iff_false]
          intro e
          have o1 := one_enc hc r
          rw [e, one_enc hd] at o1
          exact hcd (Prod.mk.inj o1).1.symm
end Go.Proofs.YtlfbnfphocpgeaaGreatDoor.Utf
namespace Go.Proofs.YtlfbnfphocpgeaaGreatDoor.Utf
open Go.RowKit
theorem at_nb (s : ByteArray) (i : Nat) (h : i < s.size) : (s[i]'h).toNat = nb s.data.toList i := by
  have h' : i < s.data.toList.length := by simpa using h
  simp only [nb, List.getD_eq_getElem?_getD, List.getElem?_eq_getElem h', Option.getD_some]
  rfl
theorem extract_rest (s : ByteArray) (k : Nat) : (s.extract k s.size).data.toList = s.data.toList.drop k := by
  have h : s.data.toList.length = s.size := by simp
  rw [ByteArray.data_extract, Array.toList_extract, List.extract_eq_take_drop]
  exact List.take_of_length_le (by rw [List.length_drop, h]; omega)
theorem scan_at {l : List UInt8} {k : Nat} (hk : k < l.length) :
    ((one (l.drop k)).2 = 0 ∧ scan k (l.drop k) = ([], some k)) ∨
    ((one (l.drop k)).2 ≠ 0 ∧ 1 ≤ (one (l.drop k)).2 ∧ k + (one (l.drop k)).2 ≤ l.length ∧
      scan k (l.drop k) = ((k, (one (l.drop k)).1) :: (scan (k + (one (l.drop k)).2) (l.drop (k + (one (l.drop k)).2))).1, (scan (k + (one (l.drop k)).2) (l.drop (k + (one (l.drop k)).2))).2)) := by
  have hne : l.drop k ≠ [] := fun e => by have := congrArg List.length e; simp only [List.length_drop, List.length_nil] at this; omega
  by_cases h0 : (one (l.drop k)).2 = 0
  · exact .inl ⟨h0, scan_bad hne h0⟩
  · obtain ⟨_, _, h3⟩ := one_bytes h0
    rw [List.length_drop] at h3
    refine .inr ⟨h0, by omega, by omega, ?_⟩
    rw [scan_step hne h0, List.drop_drop]
def putL (c : Int) : List UInt8 := if 0 ≤ c ∧ c ≤ 1114111 ∧ (c < 55296 ∨ 57343 < c) then enc c.toNat else []
end Go.Proofs.YtlfbnfphocpgeaaGreatDoor.Utf
namespace Go.Proofs.YtlfbnfphocpgeaaGreatDoor.Tre
open Num (Dec zero)
inductive Val where
  | mk (kind : Int) (is : Bool) (num : Dec) (str : List UInt8) (keys : List (List UInt8)) (kids : List Val)
def Val.kind : Val → Int | ⟨k, _, _, _, _, _⟩ => k
def Val.is : Val → Bool | ⟨_, i, _, _, _, _⟩ => i
def Val.num : Val → Dec | ⟨_, _, n, _, _, _⟩ => n
def Val.str : Val → List UInt8 | ⟨_, _, _, s, _, _⟩ => s
def Val.keys : Val → List (List UInt8) | ⟨_, _, _, _, ks, _⟩ => ks
def Val.kids : Val → List Val | ⟨_, _, _, _, _, vs⟩ => vs
def none' : Val := ⟨0, false, zero, [], [], []⟩
mutual
def deep : Val → Nat
  | ⟨k, _, _, _, _, vs⟩ => (if k = 5 ∨ k = 6 then deeps vs else 0) + 1
def deeps : List Val → Nat
  | [] => 0
  | v :: r => max (deep v) (deeps r)
end
def Own (v : Val) : Prop :=
  1 ≤ v.kind ∧ v.kind ≤ 6 ∧ (v.kind ≠ 2 → v.is = false) ∧ (v.kind ≠ 3 → v.num = zero) ∧ (v.kind ≠ 4 → v.str = []) ∧ (v.kind < 5 → v.kids = []) ∧ (v.kind ≠ 6 → v.keys = []) ∧
    Num.Right v.num ∧ Utf.bad v.str = none ∧ (v.kind = 6 → v.keys.length = v.kids.length) ∧ (∀ k ∈ v.keys, Utf.bad k = none) ∧ v.keys.Nodup
mutual
def Whole : Val → Prop
  | ⟨k, i, n, s, ks, vs⟩ => Own ⟨k, i, n, s, ks, vs⟩ ∧ Wholes vs
def Wholes : List Val → Prop
  | [] => True
  | v :: r => Whole v ∧ Wholes r
end
def Right (v : Val) : Prop := deep v ≤ 64 ∧ Whole v
theorem deeps_le {vs : List Val} {d : Nat} : deeps vs ≤ d ↔ ∀ v ∈ vs, deep v ≤ d := by
  induction vs with
  | nil => simp [deeps]
  | cons v r ih =>
    rw [deeps, Nat.max_le, ih]
    simp
theorem wholes_iff {vs : List Val} : Wholes vs ↔ ∀ v ∈ vs, Whole v := by
  induction vs with
  | nil => simp [Wholes]
  | cons v r ih =>
    rw [Wholes, ih]
    simp
theorem whole_iff {v : Val} : Whole v ↔ Own v ∧ ∀ x ∈ v.kids, Whole x := by
  obtain ⟨k, i, n, s, ks, vs⟩ := v
  rw [Whole, wholes_iff]
  rfl
theorem deep_eq (v : Val) : deep v = (if v.kind = 5 ∨ v.kind = 6 then deeps v.kids else 0) + 1 := by
  obtain ⟨k, i, n, s, ks, vs⟩ := v
  rw [deep]
  rfl
abbrev less := Op.bytesLess
theorem less_self (a : List UInt8) : less a a = false := by
  induction a with
  | nil => rfl
  | cons c l ih =>
    unfold less at ih ⊢
    unfold Op.bytesLess
    rw [ih]
    simp
theorem less_trans : ∀ {a b c : List UInt8}, less a b = true → less b c = true → less a c = true
  | [], [], _, h, _ => by simp [less, Op.bytesLess] at h
  | _ :: _, [], _, h, _ => by simp [less, Op.bytesLess] at h
  | _, _ :: _, [], _, h => by simp [less, Op.bytesLess] at h
  | [], _ :: _, _ :: _, _, _ => rfl
  | x :: a, y :: b, z :: c, h1, h2 => by
    have ih := @less_trans a b c
    unfold less at *
    simp only [Op.bytesLess, Bool.or_eq_true, Bool.and_eq_true, decide_eq_true_eq, beq_iff_eq] at *
    rcases h1 with h1 | ⟨rfl, h1⟩
    · rcases h2 with h2 | ⟨rfl, h2⟩
      · exact .inl (UInt8.lt_trans h1 h2)
      · exact .inl h1
    · rcases h2 with h2 | ⟨rfl, h2⟩
      · exact .inl h2
      · exact .inr ⟨rfl, ih h1 h2⟩
theorem less_total : ∀ {a b : List UInt8}, a ≠ b → less a b = false → less b a = true
  | [], [], h, _ => absurd rfl h
  | [], _ :: _, _, h => by simp [less, Op.bytesLess] at h
  | _ :: _, [], _, _ => rfl
  | x :: a, y :: b, h, h1 => by
    have ih := @less_total a b
    unfold less at *
    simp only [Op.bytesLess, Bool.or_eq_true, Bool.or_eq_false_iff, Bool.and_eq_false_iff, Bool.and_eq_true, decide_eq_true_eq, decide_eq_false_iff_not, beq_iff_eq, beq_eq_false_iff_ne] at *
    by_cases e : x = y
    · subst e
      refine .inr ⟨rfl, ih (fun e => h (by rw [e])) ?_⟩
      rcases h1.2 with h2 | h2
      · exact absurd rfl h2
      · exact h2
    · refine .inl ?_
      have h3 := h1.1
      rw [UInt8.lt_iff_toNat_lt] at h3 ⊢
      have : x.toNat ≠ y.toNat := fun e' => e (UInt8.toNat_inj.1 e')
      omega
def ins (p : List UInt8 × Val) : List (List UInt8 × Val) → List (List UInt8 × Val)
  | [] => [p]
  | q :: r => if less p.1 q.1 then p :: q :: r else q :: ins p r
def sortP (l : List (List UInt8 × Val)) : List (List UInt8 × Val) := l.foldr ins []
mutual
def sort : Val → Val
  | ⟨k, i, n, s, ks, vs⟩ => if k = 6 then ⟨k, i, n, s, (sortP (ks.zip (sorts vs))).map (·.1), (sortP (ks.zip (sorts vs))).map (·.2)⟩ else ⟨k, i, n, s, [], sorts vs⟩
def sorts : List Val → List Val
  | [] => []
  | v :: r => sort v :: sorts r
end
theorem sorts_map (vs : List Val) : sorts vs = vs.map sort := by
  induction vs with
  | nil => rfl
  | cons v r ih => rw [sorts, ih, List.map_cons]
def get (v : Val) (key : List UInt8) : Option Val := if v.kind = 6 then (match v.keys.findIdx? (· = key) with | some i => v.kids[i]? | none => none) else none
mutual
def walk (d : Nat) : Val → List (Nat × Val)
  | ⟨k, i, n, s, ks, vs⟩ => (d, ⟨k, i, n, s, ks, vs⟩) :: walks (d + 1) vs
def walks (d : Nat) : List Val → List (Nat × Val)
  | [] => []
  | v :: r => walk d v ++ walks d r
end
end Go.Proofs.YtlfbnfphocpgeaaGreatDoor.Tre
