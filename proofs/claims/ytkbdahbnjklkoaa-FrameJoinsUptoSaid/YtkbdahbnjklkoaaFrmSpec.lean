/- Frames, as lists of numbers: what a reader tells, how far it comes, and which error it keeps; frames put and split; pure facts. Nothing is claimed here. -/
import Derived.Test.YtkbdahbnjklkoaaVarSpec
namespace Go.Proofs.Ytkbdahbnjklkoaa.Frm
open Var

/-- Where a reader of L stands, its error, and the number told. -/
def number (L : List Nat) (at' e : Nat) : Nat × Nat × Nat :=
  if e ≠ 0 then (at', e, 0) else if (get (L.drop at')).2.2 ≠ 0 then (at', (get (L.drop at')).2.2, 0) else (at' + (get (L.drop at')).2.1, 0, (get (L.drop at')).1)
/-- Where it stands, its error, and the bytes told. -/
def take (L : List Nat) (at' e : Nat) (n : Int) : Nat × Nat × List Nat :=
  if e ≠ 0 ∨ n ≤ 0 then (at', e, []) else if (L.length - at' : Nat) < n then (at', 2, []) else (at' + n.toNat, 0, (L.drop at').take n.toNat)
def frame (L : List Nat) (at' e : Nat) (most : Int) : Nat × Nat × List Nat :=
  if (number L at' e).2.1 ≠ 0 then ((number L at' e).1, (number L at' e).2.1, []) else
  if most.toNat < (number L at' e).2.2 then (at', 4, []) else
  if L.length - (number L at' e).1 < (number L at' e).2.2 then (at', 2, []) else
  take L (number L at' e).1 0 (number L at' e).2.2

theorem number_err {L : List Nat} {p e q e1 N : Nat} (h : number L p e = (q, e1, N)) (h1 : e1 ≠ 0) : q = p ∧ N = 0 := by
  unfold number at h
  split at h
  · simp at h; omega
  · split at h
    · simp at h; omega
    · simp at h; omega
theorem number_ok {L : List Nat} {p e q N : Nat} (h : number L p e = (q, 0, N)) (hp : p ≤ L.length) : e = 0 ∧ p < q ∧ q ≤ L.length ∧ N < 18446744073709551616 := by
  have ho := get_or (L.drop p)
  have hl := get_lt (L.drop p)
  rw [List.length_drop] at ho
  unfold number at h
  split at h
  · simp at h; omega
  · split at h
    · simp at h; omega
    · simp at h; omega
theorem take_ok {L : List Nat} {p : Nat} {m : Int} (h : (take L p 0 m).2.1 = 0) (hp : p ≤ L.length) : (take L p 0 m).1 = p + m.toNat ∧ p + m.toNat ≤ L.length ∧ (take L p 0 m).2.2 = (L.drop p).take m.toNat := by
  unfold take at h ⊢
  split at h
  · rename_i hc
    rw [if_pos hc]
    have : m.toNat = 0 := by omega
    rw [this]
    simp
    exact hp
  · rename_i hc
    rw [if_neg hc]
    split at h
    · cases h
    · rename_i hs
      rw [if_neg hs]
      refine ⟨rfl, ?_, rfl⟩
      omega
/-- Where a frame was told, the reader came further. -/
theorem frame_ok {L : List Nat} {p : Nat} {most : Int} (h : (frame L p 0 most).2.1 = 0) (hp : p ≤ L.length) : p < (frame L p 0 most).1 ∧ (frame L p 0 most).1 ≤ L.length := by
  obtain ⟨q, e1, N, hnum⟩ : ∃ q e1 N, number L p 0 = (q, e1, N) := ⟨_, _, _, rfl⟩
  have hfr : frame L p 0 most = if e1 ≠ 0 then (q, e1, []) else if most.toNat < N then (p, 4, []) else if L.length - q < N then (p, 2, []) else take L q 0 N := by
    unfold frame
    rw [hnum]
  rw [hfr] at h ⊢
  by_cases he : e1 ≠ 0
  · rw [if_pos he] at h
    exact absurd h he
  · rw [if_neg he] at h ⊢
    obtain rfl : e1 = 0 := by omega
    obtain ⟨_, h1, h2, _⟩ := number_ok hnum hp
    split at h
    · cases h
    · rename_i hb
      rw [if_neg hb]
      split at h
      · cases h
      · rename_i hs
        rw [if_neg hs]
        obtain ⟨e1, e2, _⟩ := take_ok h h2
        omega

/-- The greatest int. -/
def most : Int := 9223372036854775807
/-- The frames from a place on, and the error. -/
def split (L : List Nat) (p : Nat) : List (List Nat) × Nat :=
  if _h : p < L.length ∧ p < (frame L p 0 most).1 then
    if (frame L p 0 most).2.1 ≠ 0 then ([], (frame L p 0 most).2.1) else
    if (split L (frame L p 0 most).1).2 ≠ 0 then ([], (split L (frame L p 0 most).1).2) else ((frame L p 0 most).2.2 :: (split L (frame L p 0 most).1).1, 0)
  else if p < L.length then ([], (frame L p 0 most).2.1) else ([], 0)
termination_by L.length - p
decreasing_by all_goals omega

theorem split_end {L : List Nat} {p : Nat} (h : L.length ≤ p) : split L p = ([], 0) := by
  rw [split, dif_neg (by omega), if_neg (by omega)]
theorem split_err {L : List Nat} {p : Nat} (h : p < L.length) (he : (frame L p 0 most).2.1 ≠ 0) : split L p = ([], (frame L p 0 most).2.1) := by
  rw [split]
  by_cases hc : p < L.length ∧ p < (frame L p 0 most).1
  · rw [dif_pos hc, if_pos he]
  · rw [dif_neg hc, if_pos h]
theorem split_on {L : List Nat} {p : Nat} (h : p < L.length) (he : (frame L p 0 most).2.1 = 0) :
    split L p = if (split L (frame L p 0 most).1).2 ≠ 0 then ([], (split L (frame L p 0 most).1).2) else ((frame L p 0 most).2.2 :: (split L (frame L p 0 most).1).1, 0) := by
  rw [split, dif_pos ⟨h, (frame_ok he (by omega)).1⟩, if_neg (by omega)]

/-- What came before a place, and what comes behind it. -/
def join (pre : List (List Nat)) (s : List (List Nat) × Nat) : List (List Nat) × Nat := if s.2 ≠ 0 then ([], s.2) else (pre ++ s.1, 0)
theorem join_bad {pre : List (List Nat)} {s : List (List Nat) × Nat} (h : s.2 ≠ 0) : join pre s = ([], s.2) := by unfold join; rw [if_pos h]
theorem join_good {pre : List (List Nat)} {s : List (List Nat) × Nat} (h : s.2 = 0) : join pre s = (pre ++ s.1, 0) := by unfold join; rw [if_neg (by omega)]
theorem join_on {L : List Nat} {p : Nat} {pre : List (List Nat)} (h : p < L.length) (he : (frame L p 0 most).2.1 = 0) : join pre (split L p) = join (pre ++ [(frame L p 0 most).2.2]) (split L (frame L p 0 most).1) := by
  rw [split_on h he]
  by_cases h2 : (split L (frame L p 0 most).1).2 = 0
  · rw [if_neg (by omega), join_good rfl, join_good h2]
    simp
  · rw [if_pos h2, join_bad h2]
    exact join_bad h2
theorem split_nil {L : List Nat} {p : Nat} (h : (split L p).2 ≠ 0) : (split L p).1 = [] := by
  by_cases hp : p < L.length
  · by_cases he : (frame L p 0 most).2.1 = 0
    · rw [split_on hp he] at h ⊢
      by_cases h2 : (split L (frame L p 0 most).1).2 = 0
      · rw [if_neg (by omega)] at h
        exact absurd rfl h
      · rw [if_pos h2]
    · rw [split_err hp he]
  · rw [split_end (by omega)]
theorem join_start (L : List Nat) : join [] (split L 0) = split L 0 := by
  by_cases h : (split L 0).2 = 0
  · rw [join_good h]
    exact Prod.ext (by simp) h.symm
  · rw [join_bad h]
    exact Prod.ext (split_nil h).symm rfl
/-- What came before a place and what comes behind it is all. -/
def Mid (L : List Nat) (p : Nat) (pre : List (List Nat)) (T : List (List Nat) × Nat) : Prop := join pre (split L p) = T
theorem Mid.next {L : List Nat} {p : Nat} {pre : List (List Nat)} {T : List (List Nat) × Nat} (h : Mid L p pre T) (hp : p < L.length) {q : Nat} {b : List Nat} (hf : frame L p 0 most = (q, 0, b)) : Mid L q (pre ++ [b]) T := by
  unfold Mid at h ⊢
  rw [join_on hp (by rw [hf]), hf] at h
  exact h
theorem Mid.bad {L : List Nat} {p : Nat} {pre : List (List Nat)} {T : List (List Nat) × Nat} (h : Mid L p pre T) (hp : p < L.length) {q e : Nat} {b : List Nat} (hf : frame L p 0 most = (q, e, b)) (he : e ≠ 0) : T = ([], e) := by
  unfold Mid at h
  have h2 := split_err hp (by rw [hf]; exact he)
  rw [h2, hf] at h
  rw [← h, join_bad he]
theorem Mid.done {L : List Nat} {p : Nat} {pre : List (List Nat)} {T : List (List Nat) × Nat} (h : Mid L p pre T) (hp : L.length ≤ p) : T = (pre, 0) := by
  unfold Mid at h
  rw [split_end hp, join_good rfl] at h
  rw [← h]
  simp

/-- Frames put. -/
def puts (l : List (List Nat)) : List Nat := l.flatMap fun b => put b.length ++ b
theorem puts_snoc (l : List (List Nat)) (b : List Nat) : puts (l ++ [b]) = puts l ++ put b.length ++ b := by simp [puts, List.flatMap_append]
theorem puts_app (l m : List (List Nat)) : puts (l ++ m) = puts l ++ puts m := by simp [puts, List.flatMap_append]
theorem puts_take {l : List (List Nat)} {k : Nat} (h : k < l.length) : puts (l.take (k + 1)) = puts (l.take k) ++ put l[k].length ++ l[k] := by
  rw [List.take_succ_eq_append_getElem h, puts_snoc]
theorem puts_le (l : List (List Nat)) (k : Nat) : (puts (l.take k)).length ≤ (puts l).length := by
  conv => rhs; rw [← List.take_append_drop k l, puts_app]
  rw [List.length_append]
  omega
theorem puts_ge : ∀ (l : List (List Nat)), l.length ≤ (puts l).length
  | [] => Nat.le_refl _
  | b :: l => by
    have h1 := puts_ge l
    have h2 := put_pos b.length
    unfold puts at *
    rw [List.flatMap_cons, List.length_cons, List.length_append, List.length_append]
    omega
end Go.Proofs.Ytkbdahbnjklkoaa.Frm
