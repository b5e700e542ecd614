/- A part of what twice_holds leans on (its texts, put together). Nothing is claimed here. -/
import Derived.Test.YtlfbnfphocpgeaaGreatDoorTw1
namespace Go.Proofs.YtlfbnfphocpgeaaGreatDoor.Quo
open Utf
def hexV (c : UInt8) : Option Nat :=
  if 48 ≤ c.toNat ∧ c.toNat ≤ 57 then some (c.toNat - 48) else if 97 ≤ c.toNat ∧ c.toNat ≤ 102 then some (c.toNat - 97 + 10) else if 65 ≤ c.toNat ∧ c.toNat ≤ 70 then some (c.toNat - 65 + 10) else none
def unitF : Nat → Nat → List UInt8 → Nat × Nat
  | 0, n, _ => (n, 0)
  | _ + 1, _, [] => (0, 2)
  | k + 1, n, c :: r => match hexV c with
    | none => (0, 3)
    | some d => unitF k (n * 16 + d) r
def unit (l : List UInt8) : Nat × Nat := unitF 4 0 l
structure Part where
  s : List UInt8
  size : Nat
  e : Nat
  deriving DecidableEq
def err (e : Nat) : Part := ⟨[], 0, e⟩
def follow (l : List UInt8) : Nat :=
  match l with
  | [] => 2
  | a :: r => if a ≠ 92 then 3 else match r with
    | [] => 2
    | b :: _ => if b ≠ 117 then 3 else 0
def coded (l : List UInt8) : Part :=
  if (unit l).2 ≠ 0 then err (unit l).2
  else if 56320 ≤ (unit l).1 ∧ (unit l).1 ≤ 57343 then err 3
  else if (unit l).1 < 55296 ∨ 57343 < (unit l).1 then ⟨enc (unit l).1, 6, 0⟩
  else if follow (l.drop 4) ≠ 0 then err (follow (l.drop 4))
  else if (unit (l.drop 6)).2 ≠ 0 then err (unit (l.drop 6)).2
  else if (unit (l.drop 6)).1 < 56320 ∨ 57343 < (unit (l.drop 6)).1 then err 3
  else ⟨enc (65536 + ((unit l).1 - 55296) * 1024 + ((unit (l.drop 6)).1 - 56320)), 12, 0⟩
def sign (c : UInt8) : Option UInt8 :=
  if c = 34 ∨ c = 92 ∨ c = 47 then some c else if c = 98 then some 8 else if c = 102 then some 12 else if c = 110 then some 10 else if c = 114 then some 13 else if c = 116 then some 9 else none
def part (l : List UInt8) : Part :=
  match l with
  | [] => err 2
  | c :: r =>
    if c.toNat < 32 then err 3
    else if c ≠ 92 then (if (one (c :: r)).2 = 0 then err 7 else ⟨(c :: r).take (one (c :: r)).2, (one (c :: r)).2, 0⟩)
    else match r with
      | [] => err 2
      | d :: r' => match sign d with
        | some x => ⟨[x], 2, 0⟩
        | none => if d = 117 then coded r' else err 3
theorem unitF_len : ∀ (k n : Nat) (l : List UInt8), (unitF k n l).2 = 0 → k ≤ l.length
  | 0, _, _, _ => Nat.zero_le _
  | k + 1, n, [], h => by simp [unitF] at h
  | k + 1, n, c :: r, h => by
    unfold unitF at h
    split at h
    · simp at h
    · have := unitF_len k _ r h
      simp
      omega
theorem unitF_lt : ∀ (k n : Nat) (l : List UInt8), (unitF k n l).1 ≤ n * 16 ^ k + (16 ^ k - 1)
  | 0, n, _ => by simp [unitF]
  | k + 1, n, [] => by simp [unitF]
  | k + 1, n, c :: r => by
    unfold unitF
    split
    · simp
    · rename_i d hd
      have h := unitF_lt k (n * 16 + d) r
      have hd16 : d ≤ 15 := by
        unfold hexV at hd
        split at hd
        · injection hd with hd; omega
        · split at hd
          · injection hd with hd; omega
          · split at hd
            · injection hd with hd; omega
            · cases hd
      have hp : 0 < 16 ^ k := Nat.pow_pos (by omega)
      rw [Nat.pow_succ]
      have e1 : (n * 16 + d) * 16 ^ k ≤ (n * 16 + 15) * 16 ^ k := Nat.mul_le_mul_right _ (by omega)
      have e2 : (n * 16 + 15) * 16 ^ k = n * (16 ^ k * 16) + 15 * 16 ^ k := by rw [Nat.add_mul, Nat.mul_assoc, Nat.mul_comm 16 (16 ^ k)]
      omega
theorem unit_lt (l : List UInt8) : (unit l).1 < 65536 := by
  have := unitF_lt 4 0 l
  unfold unit
  omega
theorem unit_len {l : List UInt8} (h : (unit l).2 = 0) : 4 ≤ l.length := unitF_len 4 0 l h
theorem coded_ok {l : List UInt8} (h : (coded l).e = 0) : ∃ c, Scalar c ∧ (coded l).s = enc c ∧ 6 ≤ (coded l).size ∧ (coded l).size ≤ l.length + 2 := by
  have b1 := unit_lt l
  have b2 := unit_lt (l.drop 6)
  unfold coded at h ⊢
  by_cases c1 : (unit l).2 ≠ 0
  · rw [if_pos c1] at h; exact absurd h c1
  rw [if_neg c1] at h ⊢
  have l1 := unit_len (l := l) (by omega)
  by_cases c2 : 56320 ≤ (unit l).1 ∧ (unit l).1 ≤ 57343
  · rw [if_pos c2] at h; cases h
  rw [if_neg c2] at h ⊢
  by_cases c3 : (unit l).1 < 55296 ∨ 57343 < (unit l).1
  · rw [if_pos c3]
    exact ⟨(unit l).1, by unfold Scalar; omega, rfl, Nat.le_refl _, by dsimp only; omega⟩
  rw [if_neg c3] at h ⊢
  by_cases c4 : follow (l.drop 4) ≠ 0
  · rw [if_pos c4] at h; exact absurd h c4
  rw [if_neg c4] at h ⊢
  by_cases c5 : (unit (l.drop 6)).2 ≠ 0
  · rw [if_pos c5] at h; exact absurd h c5
  rw [if_neg c5] at h ⊢
  have l2 := unit_len (l := l.drop 6) (by omega)
  rw [List.length_drop] at l2
  by_cases c6 : (unit (l.drop 6)).1 < 56320 ∨ 57343 < (unit (l.drop 6)).1
  · rw [if_pos c6] at h; cases h
  rw [if_neg c6]
  exact ⟨65536 + ((unit l).1 - 55296) * 1024 + ((unit (l.drop 6)).1 - 56320), by unfold Scalar; omega, by dsimp only, by dsimp only; omega, by dsimp only; omega⟩
theorem sign_lt {c x : UInt8} (h : sign c = some x) : x.toNat < 128 := by
  unfold sign at h
  split at h
  · rename_i hc
    injection h with h
    subst h
    rcases hc with rfl | rfl | rfl <;> decide
  · repeat (split at h; (injection h with h; subst h; decide))
    cases h
theorem enc_byte {x : UInt8} (h : x.toNat < 128) : enc x.toNat = [x] := by
  unfold enc encN
  rw [if_pos h]
  simp
theorem part_ok {l : List UInt8} (h : (part l).e = 0) : ∃ c, Scalar c ∧ (part l).s = enc c ∧ 1 ≤ (part l).size ∧ (part l).size ≤ l.length := by
  match l, h with
  | [], h => cases h
  | c :: r, h =>
    unfold part at h ⊢
    dsimp only at h ⊢
    by_cases c1 : c.toNat < 32
    · rw [if_pos c1] at h; cases h
    rw [if_neg c1] at h ⊢
    by_cases c2 : c ≠ 92
    · rw [if_pos c2] at h ⊢
      by_cases c3 : (one (c :: r)).2 = 0
      · rw [if_pos c3] at h; cases h
      rw [if_neg c3]
      obtain ⟨h1, h2, h3⟩ := one_bytes c3
      exact ⟨_, h1, h2, by dsimp only; omega, h3⟩
    rw [if_neg c2] at h ⊢
    match r, h with
    | [], h => cases h
    | d :: r', h =>
      dsimp only at h ⊢
      cases hs : sign d with
      | some x =>
        have := sign_lt hs
        exact ⟨x.toNat, by unfold Scalar; omega, (enc_byte this).symm, by show 1 ≤ 2; omega, by simp⟩
      | none =>
        rw [hs] at h
        dsimp only at h ⊢
        by_cases c4 : d = 117
        · rw [if_pos c4] at h ⊢
          obtain ⟨c, k1, k2, k3, k4⟩ := coded_ok h
          exact ⟨c, k1, k2, by omega, by simp; omega⟩
        · rw [if_neg c4] at h; cases h
def scanF (s : List UInt8) (at' : Nat) (l : List UInt8) : Part :=
  if l.head? = some 34 then ⟨s, at' + 1, 0⟩
  else if _h : (part l).e = 0 then scanF (s ++ (part l).s) (at' + (part l).size) (l.drop (part l).size) else err (part l).e
termination_by l.length
decreasing_by
  obtain ⟨_, _, _, h1, h2⟩ := part_ok _h
  rw [List.length_drop]
  omega
def scan (l : List UInt8) : Part :=
  match l with
  | [] => err 2
  | c :: r => if c ≠ 34 then err 3 else scanF [] 1 r
theorem scanF_end {s : List UInt8} {at' : Nat} {l : List UInt8} (h : l.head? = some 34) : scanF s at' l = ⟨s, at' + 1, 0⟩ := by rw [scanF, if_pos h]
theorem scanF_on {s : List UInt8} {at' : Nat} {l : List UInt8} (h : l.head? ≠ some 34) (he : (part l).e = 0) : scanF s at' l = scanF (s ++ (part l).s) (at' + (part l).size) (l.drop (part l).size) := by
  rw [scanF, if_neg h, dif_pos he]
theorem scanF_err {s : List UInt8} {at' : Nat} {l : List UInt8} (h : l.head? ≠ some 34) (he : (part l).e ≠ 0) : scanF s at' l = err (part l).e := by
  rw [scanF, if_neg h, dif_neg he]
theorem scanF_ok : ∀ (k : Nat) (l : List UInt8), l.length = k → ∀ (s : List UInt8) (at' : Nat), bad s = none → (scanF s at' l).e = 0 → bad (scanF s at' l).s = none ∧ at' < (scanF s at' l).size ∧ (scanF s at' l).size ≤ at' + l.length := by
  intro k
  induction k using Nat.strongRecOn with
  | ind k ih =>
    intro l hl s at' hs h
    by_cases h1 : l.head? = some 34
    · rw [scanF_end h1]
      refine ⟨hs, Nat.lt_succ_self _, ?_⟩
      have : 0 < l.length := by
        cases l with
        | nil => simp at h1
        | cons _ _ => simp
      dsimp only
      omega
    · by_cases he : (part l).e = 0
      · rw [scanF_on h1 he] at h ⊢
        obtain ⟨c, k1, k2, k3, k4⟩ := part_ok he
        have hb : bad (s ++ (part l).s) = none := by
          unfold bad
          rw [scan_append s _ 0 hs, k2]
          have := scan_enc (p := 0 + s.length) k1 []
          rw [List.append_nil] at this
          rw [this, scan_nil]
        have := ih (l.drop (part l).size).length (by rw [List.length_drop]; omega) _ rfl _ _ hb h
        rw [List.length_drop] at this
        exact ⟨this.1, by omega, by omega⟩
      · rw [scanF_err h1 he] at h
        exact absurd h he
end Go.Proofs.YtlfbnfphocpgeaaGreatDoor.Quo
