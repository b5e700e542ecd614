/- Frames, as lists of numbers: what is put is split into what it was; what is split is put together again; what is cut short lacks something. Nothing is claimed here. -/
import Derived.Test.YtkbdahbnjklkoaaFrmSpec
namespace Go.Proofs.Ytkbdahbnjklkoaa.Frm
open Var

/-- A frame that is whole. -/
theorem frame_whole {L : List Nat} {p : Nat} {b r : List Nat} (h : L.drop p = put b.length ++ (b ++ r)) (hb : b.length ≤ 1000000000) : frame L p 0 most = (p + (put b.length).length + b.length, 0, b) := by
  have hlen := congrArg List.length h
  rw [List.length_drop, List.length_append, List.length_append] at hlen
  have hpos := put_pos b.length
  have hg := get_put (n := b.length) (by omega) (b ++ r)
  have hn : number L p 0 = (p + (put b.length).length, 0, b.length) := by
    unfold number
    rw [if_neg (by omega), h, hg, if_neg (by simp)]
  have hm : most.toNat = 9223372036854775807 := by decide
  unfold frame
  rw [hn]
  dsimp only
  rw [if_neg (by omega), if_neg (by omega), if_neg (by omega)]
  have hd : L.drop (p + (put b.length).length) = b ++ r := by
    rw [← List.drop_drop, h, List.drop_left]
  unfold take
  by_cases h0 : b.length = 0
  · have hb0 : b = [] := List.length_eq_zero_iff.1 h0
    rw [if_pos (by omega), hb0]
    rfl
  · rw [if_neg (by omega), if_neg (by omega), hd]
    simp
/-- Nothing is left, or a frame begins that is cut short. -/
theorem frame_cut {L : List Nat} {p k : Nat} {b r : List Nat} (hp : p < L.length) (h : L.drop p = (put b.length ++ (b ++ r)).take k) (hk : k < (put b.length).length + b.length) (hb : b.length ≤ 1000000000) : (frame L p 0 most).2.1 = 2 := by
  have hlen := congrArg List.length h
  rw [List.length_drop, List.length_take, List.length_append, List.length_append] at hlen
  by_cases h1 : k < (put b.length).length
  · have hc := get_cut (n := b.length) (k := k) (by omega) h1
    rw [List.take_append_of_le_length (by omega)] at h
    have hn : number L p 0 = (p, 2, 0) := by
      unfold number
      rw [if_neg (by omega), h, hc, if_pos (by simp)]
    unfold frame
    rw [hn]
    rfl
  · have hg : get ((put b.length ++ (b ++ r)).take k) = (b.length, (put b.length).length, 0) := by
      rw [List.take_append]
      have e : (put b.length).take k = put b.length := List.take_of_length_le (by omega)
      rw [e]
      exact get_put (by omega) _
    have hn : number L p 0 = (p + (put b.length).length, 0, b.length) := by
      unfold number
      rw [if_neg (by omega), h, hg, if_neg (by simp)]
    have hm : most.toNat = 9223372036854775807 := by decide
    unfold frame
    rw [hn]
    dsimp only
    rw [if_neg (by omega), if_neg (by omega), if_pos (by omega)]

theorem split_puts : ∀ (ls : List (List Nat)) (L : List Nat) (p : Nat), L.drop p = puts ls → (∀ b ∈ ls, b.length ≤ 1000000000) → split L p = (ls, 0)
  | [], L, p, h, _ => by
    have hlen := congrArg List.length h
    rw [List.length_drop] at hlen
    simp [puts] at hlen
    rw [split_end (by omega)]
  | b :: ls, L, p, h, hb => by
    have hc : puts (b :: ls) = put b.length ++ (b ++ puts ls) := by simp [puts]
    rw [hc] at h
    have hlen := congrArg List.length h
    rw [List.length_drop, List.length_append, List.length_append] at hlen
    have hpos := put_pos b.length
    have hf := frame_whole h (hb b (by simp))
    have hd : L.drop (p + (put b.length).length + b.length) = puts ls := by
      rw [← List.drop_drop, ← List.drop_drop, h, List.drop_left, List.drop_left]
    have ih := split_puts ls L _ hd (fun x hx => hb x (by simp [hx]))
    rw [split_on (by omega) (by rw [hf]), hf]
    dsimp only
    rw [ih, if_neg (by simp)]
/-- Frames that are cut short. -/
theorem split_cut : ∀ (ls : List (List Nat)) (L : List Nat) (p k : Nat), L.drop p = (puts ls).take k → (∀ b ∈ ls, b.length ≤ 1000000000) → (split L p).2 = 0 ∨ (split L p).2 = 2
  | [], L, p, k, h, _ => by
    have hlen := congrArg List.length h
    rw [List.length_drop] at hlen
    simp [puts] at hlen
    rw [split_end (by omega)]
    exact .inl rfl
  | b :: ls, L, p, k, h, hb => by
    have hc : puts (b :: ls) = put b.length ++ (b ++ puts ls) := by simp [puts]
    rw [hc] at h
    by_cases hp : p < L.length
    · by_cases hk : k < (put b.length).length + b.length
      · have hf := frame_cut hp h hk (hb b (by simp))
        rw [split_err hp (by omega)]
        exact .inr hf
      · have h2 : L.drop p = put b.length ++ (b ++ (puts ls).take (k - (put b.length).length - b.length)) := by
          rw [h, List.take_append, List.take_of_length_le (l := put b.length) (by omega), List.take_append, List.take_of_length_le (l := b) (by omega)]
        have hf := frame_whole h2 (hb b (by simp))
        have hd : L.drop (p + (put b.length).length + b.length) = (puts ls).take (k - (put b.length).length - b.length) := by
          rw [← List.drop_drop, ← List.drop_drop, h2, List.drop_left, List.drop_left]
        have ih := split_cut ls L _ _ hd (fun x hx => hb x (by simp [hx]))
        rw [split_on hp (by rw [hf]), hf]
        dsimp only
        by_cases h0 : (split L (p + (put b.length).length + b.length)).2 = 0
        · rw [if_neg (by omega)]
          exact .inl rfl
        · rw [if_pos h0]
          exact ih
    · rw [split_end (by omega)]
      exact .inl rfl

theorem frame_bytes {L : List Nat} {p q : Nat} {b : List Nat} (hl : ∀ x ∈ L, x < 256) (hp : p ≤ L.length) (hf : frame L p 0 most = (q, 0, b)) : L.drop p = put b.length ++ (b ++ L.drop q) := by
  obtain ⟨q1, e1, N, hnum⟩ : ∃ q1 e1 N, number L p 0 = (q1, e1, N) := ⟨_, _, _, rfl⟩
  have hfr : frame L p 0 most = if e1 ≠ 0 then (q1, e1, []) else if most.toNat < N then (p, 4, []) else if L.length - q1 < N then (p, 2, []) else take L q1 0 N := by
    unfold frame
    rw [hnum]
  rw [hf] at hfr
  by_cases he : e1 ≠ 0
  · rw [if_pos he] at hfr
    injection hfr with _ h
    injection h with h _
    exact absurd h.symm he
  · rw [if_neg he] at hfr
    obtain rfl : e1 = 0 := by omega
    by_cases hb : most.toNat < N
    · rw [if_pos hb] at hfr
      simp at hfr
    · rw [if_neg hb] at hfr
      by_cases hs : L.length - q1 < N
      · rw [if_pos hs] at hfr
        simp at hfr
      · rw [if_neg hs] at hfr
        obtain ⟨_, h1, h2, _⟩ := number_ok hnum hp
        obtain ⟨t1, t2, t3⟩ := take_ok (L := L) (p := q1) (m := (N : Int)) (by rw [← hfr]) h2
        rw [← hfr] at t1 t3
        dsimp only at t1 t3
        rw [Int.toNat_natCast] at t1 t2 t3
        have hnn := hnum
        unfold number at hnn
        rw [if_neg (by omega)] at hnn
        by_cases hg : (get (L.drop p)).2.2 = 0
        · rw [if_neg (by omega)] at hnn
          injection hnn with a1 a2
          injection a2 with _ a3
          have hpg := put_get (l := L.drop p) (fun x hx => hl x (List.mem_of_mem_drop hx)) hg
          have hbl : b.length = N := by rw [t3, List.length_take, List.length_drop]; omega
          rw [hbl, ← a3, hpg]
          have hq1 : q1 = p + (get (L.drop p)).2.1 := a1.symm
          have e2 : b ++ L.drop q = L.drop q1 := by rw [t3, t1, ← List.drop_drop, List.take_append_drop]
          rw [e2, hq1, ← List.drop_drop, List.take_append_drop]
        · rw [if_pos hg] at hnn
          injection hnn with _ a2
          injection a2 with a2 _
          exact absurd a2 hg

theorem puts_small {m : Nat} (hm : m ≤ 1000000000) : ∀ (ls : List (List Nat)), (∀ b ∈ ls, b.length ≤ m) → (puts ls).length ≤ ls.length * (m + 10)
  | [], _ => by simp [puts]
  | b :: ls, h => by
    have h1 := puts_small hm ls (fun x hx => h x (by simp [hx]))
    have h2 := h b (by simp)
    have h3 := put_len (n := b.length) (by omega)
    have hc : puts (b :: ls) = put b.length ++ (b ++ puts ls) := by simp [puts]
    rw [hc, List.length_append, List.length_append, List.length_cons, Nat.add_mul]
    omega
theorem take_any_len {L : List Nat} {p e : Nat} {m : Int} : (take L p e m).2.2.length ≤ L.length := by
  unfold take
  split
  · simp
  · split
    · simp
    · simp only [List.length_take, List.length_drop]
      omega
theorem take_one {L : List Nat} {p e : Nat} : (take L p e 1).2.2 = [] ∨ ∃ x, (take L p e 1).2.2 = [x] := by
  unfold take
  split
  · exact .inl rfl
  · split
    · exact .inl rfl
    · rename_i h1 h2
      right
      have hlt : p < L.length := by omega
      refine ⟨L[p], ?_⟩
      show (L.drop p).take 1 = [L[p]]
      rw [List.drop_eq_getElem_cons hlt]
      rfl
theorem frame_len {L : List Nat} {p : Nat} {most : Int} : (frame L p 0 most).2.2.length ≤ L.length := by
  unfold frame
  split
  · simp
  · split
    · simp
    · split
      · simp
      · unfold take
        split
        · simp
        · split
          · simp
          · simp only [List.length_take, List.length_drop]
            omega
theorem frame_any_len {L : List Nat} {p e : Nat} {most : Int} : (frame L p e most).2.2.length ≤ L.length := by
  unfold frame
  split
  · simp
  · split
    · simp
    · split
      · simp
      · unfold take
        split
        · simp
        · split
          · simp
          · simp only [List.length_take, List.length_drop]
            omega
theorem split_each : ∀ (k : Nat) (L : List Nat) (p : Nat), L.length - p = k → ∀ b ∈ (split L p).1, b.length ≤ L.length := by
  intro k
  induction k using Nat.strongRecOn with
  | ind k ih =>
    intro L p hk b hb
    by_cases hp : p < L.length
    · by_cases he : (frame L p 0 most).2.1 = 0
      · have hok := frame_ok he (by omega)
        rw [split_on hp he] at hb
        by_cases h0 : (split L (frame L p 0 most).1).2 = 0
        · rw [if_neg (by omega)] at hb
          rcases List.mem_cons.1 hb with rfl | hb
          · exact frame_len
          · exact ih _ (by omega) L _ rfl b hb
        · rw [if_pos h0] at hb
          simp at hb
      · rw [split_err hp he] at hb
        simp at hb
    · rw [split_end (by omega)] at hb
      simp at hb
theorem split_len : ∀ (k : Nat) (L : List Nat) (p : Nat), L.length - p = k → (split L p).1.length ≤ L.length - p := by
  intro k
  induction k using Nat.strongRecOn with
  | ind k ih =>
    intro L p hk
    by_cases hp : p < L.length
    · by_cases he : (frame L p 0 most).2.1 = 0
      · have hok := frame_ok he (by omega)
        rw [split_on hp he]
        by_cases h0 : (split L (frame L p 0 most).1).2 = 0
        · rw [if_neg (by omega), List.length_cons]
          have := ih _ (by omega) L (frame L p 0 most).1 rfl
          omega
        · rw [if_pos h0]
          simp
      · rw [split_err hp he]
        simp
    · rw [split_end (by omega)]
      simp

theorem puts_split : ∀ (k : Nat) (L : List Nat) (p : Nat), L.length - p = k → (∀ x ∈ L, x < 256) → p ≤ L.length → (split L p).2 = 0 → puts (split L p).1 = L.drop p := by
  intro k
  induction k using Nat.strongRecOn with
  | ind k ih =>
    intro L p hk hl hp h
    by_cases hlt : p < L.length
    · obtain ⟨q, E, b, hf⟩ : ∃ q E b, frame L p 0 most = (q, E, b) := ⟨_, _, _, rfl⟩
      by_cases hE : E = 0
      · subst hE
        have hok := frame_ok (L := L) (p := p) (most := most) (by rw [hf]) hp
        rw [hf] at hok
        dsimp only at hok
        have hfb := frame_bytes hl hp hf
        rw [split_on hlt (by rw [hf]), hf] at h ⊢
        dsimp only at h ⊢
        by_cases h0 : (split L q).2 = 0
        · rw [if_neg (by omega)] at h ⊢
          have := ih (L.length - q) (by omega) L q rfl hl hok.2 h0
          show puts (b :: (split L q).1) = _
          rw [hfb]
          have hc : puts (b :: (split L q).1) = put b.length ++ (b ++ puts (split L q).1) := by simp [puts]
          rw [hc, this]
        · rw [if_pos h0] at h
          exact absurd h h0
      · rw [split_err hlt (by rw [hf]; exact hE), hf] at h
        exact absurd h hE
    · rw [split_end (by omega)]
      have e : L.drop p = [] := List.drop_eq_nil_of_le (by omega)
      rw [e]
      rfl
end Go.Proofs.Ytkbdahbnjklkoaa.Frm
