/- A part of what twice_holds leans on (its texts, put together). Nothing is claimed here. -/
import Derived.Test.YtlfbnfphocpgeaaGreatDoorTw15
namespace Go.Proofs.YtlfbnfphocpgeaaGreatDoor.Num
def tab : List Nat := [0, 0, 0, 0, 0, 0, 0,  0, 3, 4, 2, 0, 0, 0,  0, 3, 4, 0, 0, 0, 0,  0, 0, 0, 0, 0, 5, 7,  0, 4, 4, 0, 0, 5, 7,  0, 6, 6, 0, 0, 0, 0,  0, 6, 6, 0, 0, 0, 7,  0, 9, 9, 8, 8, 0, 0,  0, 9, 9, 0, 0, 0, 0,  0, 9, 9, 0, 0, 0, 0]
def stp (s c : Nat) : Nat := tab.getD (s * 7 + c) 0
def sg (x : Nat) : Nat := if x = 48 then 1 else if 49 ≤ x ∧ x ≤ 57 then 2 else if x = 45 then 3 else if x = 43 then 4 else if x = 46 then 5 else if x = 101 ∨ x = 69 then 6 else 0
theorem sg_lt (x : Nat) : sg x < 7 := by unfold sg; (repeat' split) <;> omega
def fin (s : Nat) : Bool := s == 3 || s == 4 || s == 6 || s == 9
theorem stp_lt {s c : Nat} (hs : s < 10) (hc : c < 7) : stp s c < 10 := by
  have : ∀ s : Fin 10, ∀ c : Fin 7, stp s.1 c.1 < 10 := by decide
  exact this ⟨s, hs⟩ ⟨c, hc⟩
def dfa : Nat → List UInt8 → Nat → Nat → Nat
  | _, [], _, L => L
  | s, b :: r, i, L => if stp s (sg b.toNat) = 0 then L else dfa (stp s (sg b.toNat)) r (i + 1) (if fin (stp s (sg b.toNat)) then i + 1 else L)
theorem dfa_at {s : Nat} (h0 : stp s 0 = 0) (l : List UInt8) (i L : Nat) :
    dfa s (l.drop i) i L = if stp s (sg (nb l i)) = 0 then L else dfa (stp s (sg (nb l i))) (l.drop (i + 1)) (i + 1) (if fin (stp s (sg (nb l i))) then i + 1 else L) := by
  by_cases hl : i < l.length
  · rw [List.drop_eq_getElem_cons hl, dfa]
    have : nb l i = l[i].toNat := by
      unfold nb
      rw [List.getD_eq_getElem?_getD, List.getElem?_eq_getElem hl]
      rfl
    rw [this]
  · rw [List.drop_eq_nil_of_le (by omega), nb_past (by omega)]
    have : sg 0 = 0 := rfl
    rw [this, if_pos h0]
    rfl
theorem sg_dig {l : List UInt8} {i : Nat} (h : DigAt l i) : sg (nb l i) = 1 ∨ sg (nb l i) = 2 := by
  unfold DigAt at h
  unfold sg
  by_cases c : nb l i = 48
  · rw [if_pos c]; exact .inl rfl
  · rw [if_neg c, if_pos (by omega)]; exact .inr rfl
theorem sg_not {l : List UInt8} {i : Nat} (h : ¬ DigAt l i) : sg (nb l i) ≠ 1 ∧ sg (nb l i) ≠ 2 ∧ (sg (nb l i) = 3 ↔ nb l i = 45) ∧ (sg (nb l i) = 4 ↔ nb l i = 43) ∧ (sg (nb l i) = 5 ↔ nb l i = 46) ∧ (sg (nb l i) = 6 ↔ (nb l i = 101 ∨ nb l i = 69)) := by
  unfold DigAt at h
  unfold sg
  generalize nb l i = x at *
  rw [if_neg (by omega), if_neg (by omega)]
  by_cases c1 : x = 45
  · subst c1; simp
  by_cases c2 : x = 43
  · subst c2; simp
  by_cases c3 : x = 46
  · subst c3; simp
  by_cases c4 : x = 101 ∨ x = 69
  · simp [c1, c2, c3, c4]
  · simp [c1, c2, c3, c4]
theorem d9 (l : List UInt8) : ∀ (k i : Nat), l.length - i = k → dfa 9 (l.drop i) i i = run l i := by
  intro k
  induction k using Nat.strongRecOn with
  | ind k ih =>
    intro i hk
    rw [dfa_at rfl]
    by_cases h : DigAt l i
    · have hl := digAt_lt h
      rw [run_on h]
      have := ih (l.length - (i + 1)) (by omega) (i + 1) rfl
      rcases sg_dig h with e | e <;> rw [e] <;> exact this
    · rw [run_stop h]
      obtain ⟨a, b, _⟩ := sg_not h
      have := sg_lt (nb l i)
      generalize sg (nb l i) = c at *
      have : c = 0 ∨ c = 3 ∨ c = 4 ∨ c = 5 ∨ c = 6 := by omega
      rcases this with rfl | rfl | rfl | rfl | rfl <;> rfl
theorem d8 (l : List UInt8) (i L : Nat) : dfa 8 (l.drop i) i L = if DigAt l i then run l i else L := by
  rw [dfa_at rfl]
  by_cases h : DigAt l i
  · rw [if_pos h, run_on h]
    have := d9 l _ (i + 1) rfl
    rcases sg_dig h with e | e <;> rw [e] <;> exact this
  · rw [if_neg h]
    obtain ⟨a, b, _⟩ := sg_not h
    have := sg_lt (nb l i)
    generalize sg (nb l i) = c at *
    have : c = 0 ∨ c = 3 ∨ c = 4 ∨ c = 5 ∨ c = 6 := by omega
    rcases this with rfl | rfl | rfl | rfl | rfl <;> rfl
theorem d7 (l : List UInt8) (i L : Nat) : dfa 7 (l.drop i) i L = if DigAt l (signEnd l i) then run l (signEnd l i) else L := by
  rw [dfa_at rfl]
  by_cases h : DigAt l i
  · have hs : signEnd l i = i := by
      unfold signEnd
      unfold DigAt at h
      rw [if_neg (by omega)]
    rw [hs, if_pos h, run_on h]
    have := d9 l _ (i + 1) rfl
    rcases sg_dig h with e | e <;> rw [e] <;> exact this
  · obtain ⟨a, b, e3, e4, _⟩ := sg_not h
    by_cases c3 : nb l i = 45
    · have hs : signEnd l i = i + 1 := by unfold signEnd; rw [if_pos (.inr c3)]
      rw [e3.2 c3, hs]
      exact d8 l (i + 1) L
    by_cases c4 : nb l i = 43
    · have hs : signEnd l i = i + 1 := by unfold signEnd; rw [if_pos (.inl c4)]
      rw [e4.2 c4, hs]
      exact d8 l (i + 1) L
    · have hs : signEnd l i = i := by unfold signEnd; rw [if_neg (fun e => e.elim c4 c3)]
      rw [hs, if_neg h]
      have n3 : sg (nb l i) ≠ 3 := fun e => c3 (e3.1 e)
      have n4 : sg (nb l i) ≠ 4 := fun e => c4 (e4.1 e)
      have := sg_lt (nb l i)
      clear e3 e4
      generalize sg (nb l i) = c at *
      have : c = 0 ∨ c = 5 ∨ c = 6 := by omega
      rcases this with rfl | rfl | rfl <;> rfl
theorem d_exp (l : List UInt8) (i : Nat) (h : ¬ DigAt l i) : (if sg (nb l i) = 6 then dfa 7 (l.drop (i + 1)) (i + 1) i else i) = expEnd l i := by
  obtain ⟨_, _, _, _, _, e6⟩ := sg_not h
  unfold expEnd
  by_cases c : nb l i = 101 ∨ nb l i = 69
  · rw [if_pos (e6.2 c), d7]
    by_cases hd : DigAt l (signEnd l (i + 1))
    · rw [if_pos hd, if_pos ⟨c, hd⟩]
    · rw [if_neg hd, if_neg (fun e => hd e.2)]
  · rw [if_neg (fun e => c (e6.1 e)), if_neg (fun e => c e.1)]
theorem expEnd_dig {l : List UInt8} {i : Nat} (h : DigAt l i) : expEnd l i = i := by
  unfold DigAt at h
  unfold expEnd
  rw [if_neg (by omega)]
theorem fracEnd_dig {l : List UInt8} {i : Nat} (h : DigAt l i) : fracEnd l i = i := by
  unfold DigAt at h
  unfold fracEnd
  rw [if_neg (by omega)]
theorem d6 (l : List UInt8) : ∀ (k i : Nat), l.length - i = k → dfa 6 (l.drop i) i i = expEnd l (run l i) := by
  intro k
  induction k using Nat.strongRecOn with
  | ind k ih =>
    intro i hk
    rw [dfa_at rfl]
    by_cases h : DigAt l i
    · have hl := digAt_lt h
      rw [run_on h]
      have := ih (l.length - (i + 1)) (by omega) (i + 1) rfl
      rcases sg_dig h with e | e <;> rw [e] <;> exact this
    · rw [run_stop h, ← d_exp l i h]
      obtain ⟨a, b, _⟩ := sg_not h
      have := sg_lt (nb l i)
      generalize sg (nb l i) = c at *
      have : c = 0 ∨ c = 3 ∨ c = 4 ∨ c = 5 ∨ c = 6 := by omega
      rcases this with rfl | rfl | rfl | rfl | rfl <;> rfl
theorem d5 (l : List UInt8) (i L : Nat) : dfa 5 (l.drop i) i L = if DigAt l i then expEnd l (run l i) else L := by
  rw [dfa_at rfl]
  by_cases h : DigAt l i
  · rw [if_pos h, run_on h]
    have := d6 l _ (i + 1) rfl
    rcases sg_dig h with e | e <;> rw [e] <;> exact this
  · rw [if_neg h]
    obtain ⟨a, b, _⟩ := sg_not h
    have := sg_lt (nb l i)
    generalize sg (nb l i) = c at *
    have : c = 0 ∨ c = 3 ∨ c = 4 ∨ c = 5 ∨ c = 6 := by omega
    rcases this with rfl | rfl | rfl | rfl | rfl <;> rfl
theorem d_frac (l : List UInt8) (i : Nat) (h : ¬ DigAt l i) : (if sg (nb l i) = 5 then dfa 5 (l.drop (i + 1)) (i + 1) i else if sg (nb l i) = 6 then dfa 7 (l.drop (i + 1)) (i + 1) i else i) = expEnd l (fracEnd l i) := by
  obtain ⟨_, _, _, _, e5, _⟩ := sg_not h
  by_cases c : nb l i = 46
  · rw [if_pos (e5.2 c), d5]
    unfold fracEnd
    by_cases hd : DigAt l (i + 1)
    · rw [if_pos hd, if_pos ⟨c, hd⟩]
    · rw [if_neg hd, if_neg (fun e => hd e.2)]
      unfold expEnd
      rw [if_neg (by omega)]
  · have hf : fracEnd l i = i := by unfold fracEnd; rw [if_neg (fun e => c e.1)]
    rw [if_neg (fun e => c (e5.1 e)), hf]
    exact d_exp l i h
theorem d3 (l : List UInt8) (i : Nat) : dfa 3 (l.drop i) i i = expEnd l (fracEnd l i) := by
  rw [dfa_at rfl]
  by_cases h : DigAt l i
  · rw [fracEnd_dig h, expEnd_dig h]
    rcases sg_dig h with e | e <;> rw [e] <;> rfl
  · rw [← d_frac l i h]
    obtain ⟨a, b, _⟩ := sg_not h
    have := sg_lt (nb l i)
    generalize sg (nb l i) = c at *
    have : c = 0 ∨ c = 3 ∨ c = 4 ∨ c = 5 ∨ c = 6 := by omega
    rcases this with rfl | rfl | rfl | rfl | rfl <;> rfl
theorem d4 (l : List UInt8) : ∀ (k i : Nat), l.length - i = k → dfa 4 (l.drop i) i i = expEnd l (fracEnd l (run l i)) := by
  intro k
  induction k using Nat.strongRecOn with
  | ind k ih =>
    intro i hk
    rw [dfa_at rfl]
    by_cases h : DigAt l i
    · have hl := digAt_lt h
      rw [run_on h]
      have := ih (l.length - (i + 1)) (by omega) (i + 1) rfl
      rcases sg_dig h with e | e <;> rw [e] <;> exact this
    · rw [run_stop h, ← d_frac l i h]
      obtain ⟨a, b, _⟩ := sg_not h
      have := sg_lt (nb l i)
      generalize sg (nb l i) = c at *
      have : c = 0 ∨ c = 3 ∨ c = 4 ∨ c = 5 ∨ c = 6 := by omega
      rcases this with rfl | rfl | rfl | rfl | rfl <;> rfl
theorem d_head (l : List UInt8) (i : Nat) (h : DigAt l i) : dfa (stp 1 (sg (nb l i))) (l.drop (i + 1)) (i + 1) (i + 1) = expEnd l (fracEnd l (intEnd l i)) ∧ (stp 1 (sg (nb l i)) = 3 ∨ stp 1 (sg (nb l i)) = 4) := by
  unfold intEnd
  by_cases c : nb l i = 48
  · rw [if_pos c, c]
    exact ⟨d3 l (i + 1), .inl rfl⟩
  · have e : sg (nb l i) = 2 := by
      unfold DigAt at h
      unfold sg
      rw [if_neg c, if_pos (by omega)]
    rw [if_neg c, e, run_on h]
    exact ⟨d4 l _ (i + 1) rfl, .inr rfl⟩
theorem dfa_scan (l : List UInt8) : dfa 1 l 0 0 = scan l := by
  have h0 := dfa_at (s := 1) rfl l 0 0
  rw [List.drop_zero] at h0
  rw [h0]
  unfold scan neg0
  by_cases h : DigAt l 0
  · have c : nb l 0 ≠ 45 := by unfold DigAt at h; omega
    obtain ⟨e, e2⟩ := d_head l 0 h
    rw [if_neg c, if_pos h, ← e]
    rcases e2 with e2 | e2 <;> rw [e2] <;> rfl
  · obtain ⟨a, b, e3, _⟩ := sg_not h
    by_cases c : nb l 0 = 45
    · rw [if_pos c, e3.2 c]
      show dfa 2 (l.drop 1) 1 0 = _
      rw [dfa_at rfl]
      by_cases h1 : DigAt l 1
      · obtain ⟨e, e2⟩ := d_head l 1 h1
        rw [if_pos h1, ← e]
        have e4 : stp 2 (sg (nb l 1)) = stp 1 (sg (nb l 1)) := by rcases sg_dig h1 with e | e <;> rw [e] <;> rfl
        rw [e4]
        rcases e2 with e2 | e2 <;> rw [e2] <;> rfl
      · rw [if_neg h1]
        obtain ⟨a, b, _⟩ := sg_not h1
        have := sg_lt (nb l 1)
        generalize sg (nb l 1) = c at *
        have : c = 0 ∨ c = 3 ∨ c = 4 ∨ c = 5 ∨ c = 6 := by omega
        rcases this with rfl | rfl | rfl | rfl | rfl <;> rfl
    · rw [if_neg c, if_neg h]
      have n3 : sg (nb l 0) ≠ 3 := fun e => c (e3.1 e)
      have := sg_lt (nb l 0)
      clear e3
      generalize sg (nb l 0) = c at *
      have : c = 0 ∨ c = 4 ∨ c = 5 ∨ c = 6 := by omega
      rcases this with rfl | rfl | rfl | rfl <;> rfl
theorem take_run {l : List UInt8} : (∀ c ∈ l.take (run l 0), dg c = true) ∧ l.take (run l 0) = l.takeWhile dg := by
  have e : l.take (run l 0) = l.takeWhile dg := by
    unfold run
    rw [List.drop_zero, Nat.zero_add]
    exact (List.prefix_iff_eq_take.1 (List.takeWhile_prefix dg)).symm
  exact ⟨fun c hc => by rw [e] at hc; exact List.all_eq_true.1 List.all_takeWhile c hc, e⟩
theorem digAt_run {l : List UInt8} (h : DigAt l 0) : 0 < run l 0 := by rw [run_on h]; exact run_ge l 1
theorem parts_of {l : List UInt8} (h : scan l = l.length) (h0 : l ≠ []) : ∃ n I F x, Parts I F x ∧ l = text n I F x := by
  obtain ⟨n, M, hM⟩ : ∃ n M, neg0 l = (negT n).length ∧ l = negT n ++ M := by
    unfold neg0
    by_cases c : nb l 0 = 45
    · obtain ⟨b, r, rfl⟩ := List.exists_cons_of_ne_nil h0
      refine ⟨true, r, by rw [if_pos c]; rfl, ?_⟩
      rw [nb_zero] at c
      rw [show b = 45 from UInt8.toNat_inj.1 c]
      rfl
    · exact ⟨false, l, by rw [if_neg c]; rfl, rfl⟩
  obtain ⟨hn, rfl⟩ := hM
  have hd : DigAt M 0 := by
    unfold scan at h
    rw [hn] at h
    split at h
    · rename_i hh
      exact (digAt_app (negT n) M 0).1 (by rw [Nat.add_zero]; exact hh)
    · exact absurd (List.length_eq_zero_iff.1 h.symm) h0
  have hs : expEnd M (fracEnd M (intEnd M 0)) = M.length := by
    unfold scan at h
    have hd' := (digAt_app (negT n) M 0).2 hd
    rw [Nat.add_zero] at hd'
    rw [hn, if_pos hd'] at h
    have e1 := intEnd_app (negT n) M 0
    rw [Nat.add_zero] at e1
    rw [e1, fracEnd_app, expEnd_app, List.length_append] at h
    omega
  clear h hn h0
  obtain ⟨I, R, rfl, hI0, hI, hh, hie⟩ : ∃ I R, M = I ++ R ∧ I ≠ [] ∧ (∀ c ∈ I, dg c = true) ∧ (I = [48] ∨ I.head? ≠ some 48) ∧ intEnd M 0 = I.length := by
    obtain ⟨b, r, rfl⟩ := List.exists_cons_of_ne_nil (show M ≠ [] by rintro rfl; revert hd; decide)
    unfold intEnd
    by_cases c : nb (b :: r) 0 = 48
    · rw [nb_zero] at c
      obtain rfl : b = 48 := UInt8.toNat_inj.1 c
      exact ⟨[48], r, rfl, by simp, by decide, .inl rfl, by rw [nb_zero]; rfl⟩
    · obtain ⟨t1, t2⟩ := take_run (l := b :: r)
      have hr := digAt_run hd
      refine ⟨(b :: r).take (run (b :: r) 0), (b :: r).drop (run (b :: r) 0), (List.take_append_drop _ _).symm, ?_, t1, .inr ?_, ?_⟩
      · intro e
        have := congrArg List.length e
        rw [List.length_take, List.length_cons, List.length_nil] at this
        omega
      · rw [List.head?_take, if_neg (by omega)]
        intro e
        rw [List.head?_cons] at e
        injection e with e
        subst e
        exact c rfl
      · rw [if_neg c, List.length_take]
        have := run_le (l := b :: r) (i := 0) (by simp)
        omega
  rw [hie] at hs
  have f1 := fracEnd_app I R 0
  rw [Nat.add_zero] at f1
  rw [f1, expEnd_app, List.length_append] at hs
  have hs : expEnd R (fracEnd R 0) = R.length := by omega
  clear f1 hie hd
  obtain ⟨F, Q, rfl, hF, hfe⟩ : ∃ F Q, R = fracT F ++ Q ∧ (∀ c ∈ F, dg c = true) ∧ fracEnd R 0 = (fracT F).length := by
    unfold fracEnd
    by_cases c : nb R 0 = 46 ∧ DigAt R (0 + 1)
    · obtain ⟨b, r, rfl⟩ := List.exists_cons_of_ne_nil (show R ≠ [] by rintro rfl; have := c.1; rw [nb_nil] at this; omega)
      have cb := c.1
      rw [nb_zero] at cb
      obtain rfl : b = 46 := UInt8.toNat_inj.1 cb
      have hd : DigAt r 0 := (digAt_app [46] r 0).1 c.2
      obtain ⟨t1, t2⟩ := take_run (l := r)
      have hr := digAt_run hd
      have hn : r.take (run r 0) ≠ [] := by
        intro e
        have hlt := digAt_lt hd
        have := congrArg List.length e
        rw [List.length_take, List.length_nil] at this
        omega
      refine ⟨r.take (run r 0), r.drop (run r 0), ?_, t1, ?_⟩
      · unfold fracT
        rw [if_neg hn, List.cons_append, List.take_append_drop]
      · rw [if_pos c]
        have e := run_app [46] r 0
        unfold fracT
        rw [if_neg hn, List.length_cons, List.length_take]
        have := run_le (l := r) (i := 0) (by simp)
        have e' : run (46 :: r) (0 + 1) = 1 + run r 0 := e
        rw [e']
        omega
    · exact ⟨[], R, rfl, by simp, by rw [if_neg c]; rfl⟩
  rw [hfe] at hs
  have f1 := expEnd_app (fracT F) Q 0
  rw [Nat.add_zero] at f1
  rw [f1, List.length_append] at hs
  have hs : expEnd Q 0 = Q.length := by omega
  clear f1 hfe
  obtain ⟨x, rfl, hx⟩ : ∃ x, Q = expT x ∧ ∀ m s E, x = some (m, s, E) → (m = 101 ∨ m = 69) ∧ (s = [] ∨ s = [43] ∨ s = [45]) ∧ E ≠ [] ∧ ∀ c ∈ E, dg c = true := by
    unfold expEnd at hs
    by_cases c : (nb Q 0 = 101 ∨ nb Q 0 = 69) ∧ DigAt Q (signEnd Q (0 + 1))
    · rw [if_pos c] at hs
      obtain ⟨b, r, rfl⟩ := List.exists_cons_of_ne_nil (show Q ≠ [] by rintro rfl; have := c.1; rw [nb_nil] at this; omega)
      obtain ⟨cb, cd⟩ := c
      have e1 : signEnd (b :: r) (0 + 1) = 1 + signEnd r 0 := signEnd_app [b] r 0
      rw [e1] at hs cd
      have e2 : run (b :: r) (1 + signEnd r 0) = 1 + run r (signEnd r 0) := run_app [b] r (signEnd r 0)
      have cd' : DigAt r (signEnd r 0) := (digAt_app [b] r (signEnd r 0)).1 cd
      rw [e2, List.length_cons] at hs
      obtain ⟨s, E, rfl, hs0, hse⟩ : ∃ s E, r = s ++ E ∧ (s = [] ∨ s = [43] ∨ s = [45]) ∧ signEnd r 0 = s.length := by
        unfold signEnd
        by_cases c : nb r 0 = 43 ∨ nb r 0 = 45
        · obtain ⟨y, r', rfl⟩ := List.exists_cons_of_ne_nil (show r ≠ [] by rintro rfl; rw [nb_nil] at c; omega)
          refine ⟨[y], r', rfl, ?_, by rw [if_pos c]; rfl⟩
          rw [nb_zero] at c
          rcases c with c | c
          · exact .inr (.inl (by rw [show y = 43 from UInt8.toNat_inj.1 c]))
          · exact .inr (.inr (by rw [show y = 45 from UInt8.toNat_inj.1 c]))
        · exact ⟨[], r, rfl, .inl rfl, by rw [if_neg c]; rfl⟩
      rw [hse] at hs cd'
      have e3 := run_app s E 0
      rw [Nat.add_zero] at e3
      have hE : DigAt E 0 := (digAt_app s E 0).1 cd'
      rw [e3, List.length_append] at hs
      have hr : run E 0 = E.length := by omega
      obtain ⟨t1, t2⟩ := take_run (l := E)
      rw [hr, List.take_length] at t1
      refine ⟨some (b, s, E), rfl, ?_⟩
      intro m s' E' e
      injection e with e
      injection e with e1 e2
      injection e2 with e2 e3
      subst e1; subst e2; subst e3
      rw [nb_zero] at cb
      refine ⟨?_, hs0, ?_, t1⟩
      · rcases cb with c | c
        · exact .inl (UInt8.toNat_inj.1 c)
        · exact .inr (UInt8.toNat_inj.1 c)
      · rintro rfl
        revert hE
        decide
    · rw [if_neg c] at hs
      obtain rfl : Q = [] := List.length_eq_zero_iff.1 hs.symm
      exact ⟨none, rfl, by simp⟩
  exact ⟨n, I, F, x, ⟨hI0, hI, hh, hF, hx⟩, rfl⟩
theorem intEnd_le' {l : List UInt8} {i : Nat} (h : DigAt l i) : intEnd l i ≤ l.length := by
  have := digAt_lt h
  unfold intEnd
  split
  · omega
  · exact run_le (by omega)
theorem fracEnd_le' {l : List UInt8} {i : Nat} (h : i ≤ l.length) : fracEnd l i ≤ l.length := by
  unfold fracEnd
  split
  · rename_i hh
    have := digAt_lt hh.2
    exact run_le (by omega)
  · exact h
theorem scan_le (l : List UInt8) : scan l ≤ l.length := by
  unfold scan
  split
  · rename_i hd
    unfold expEnd
    split
    · rename_i hh
      have := digAt_lt hh.2
      exact run_le (by omega)
    · exact fracEnd_le' (intEnd_le' hd)
  · omega
end Go.Proofs.YtlfbnfphocpgeaaGreatDoor.Num
namespace Go.Proofs.YtlfbnfphocpgeaaGreatDoor.Num
def valR : List UInt8 → Nat
  | [] => 0
  | c :: r => (c.toNat - 48) + 10 * valR r
theorem valD_rev (r : List UInt8) : valD r.reverse = valR r := by
  induction r with
  | nil => rfl
  | cons c r ih =>
    rw [List.reverse_cons, valD_snoc, ih]
    show valR r * 10 + (c.toNat - 48) = (c.toNat - 48) + 10 * valR r
    omega
theorem valD_eq (d : List UInt8) : valD d = valR d.reverse := by rw [← valD_rev, List.reverse_reverse]
theorem valR_app (r s : List UInt8) : valR (r ++ s) = valR r + 10 ^ r.length * valR s := by
  induction r with
  | nil => simp [valR]
  | cons c r ih =>
    show (c.toNat - 48) + 10 * valR (r ++ s) = (c.toNat - 48) + 10 * valR r + 10 ^ (r.length + 1) * valR s
    rw [ih, Nat.pow_succ, Nat.mul_comm (10 ^ r.length) 10, Nat.mul_assoc]
    omega
def V (n : Dec) : Nat := valD n.dig * 10 ^ (n.exp + 10000).toNat
theorem right_exp {n : Dec} (h : Right n) : -10000 ≤ n.exp ∧ n.exp ≤ 10000 ∧ n.dig.length ≤ 1000 ∧ (∀ c ∈ n.dig, dg c = true) := by
  unfold Right at h
  split at h
  · rename_i h0
    rw [h0, h.2]
    simp
  · exact ⟨h.2.1, h.2.2.1, h.1, h.2.2.2.1⟩
def atN (n : Dec) (p : Int) : Nat :=
  if (n.dig.length : Int) - 1 - (p - n.exp) < 0 ∨ (n.dig.length : Int) ≤ (n.dig.length : Int) - 1 - (p - n.exp) then 48 else nb n.dig ((n.dig.length : Int) - 1 - (p - n.exp)).toNat
def W (n : Dec) : Nat := valD n.dig * 10 ^ n.exp.toNat
def whole (n : Dec) : Nat × Bool :=
  if Right n ∧ n.neg = false ∧ 0 ≤ n.exp ∧ n.exp + n.dig.length ≤ 20 ∧ W n ≤ 18446744073709551615 then (W n, true) else (0, false)
theorem valR_zeros (k : Nat) (s : List UInt8) : valR (noughts k ++ s) = 10 ^ k * valR s := by
  rw [valR_app, noughts_len]
  have : ∀ k, valR (noughts k) = 0 := by
    intro k
    induction k with
    | zero => rfl
    | succ k ih =>
      show (48 - 48) + 10 * valR (noughts k) = 0
      rw [ih]
  rw [this]
  omega
theorem strip_val (d : List UInt8) (e : Int) : ∃ k : Nat, (strip d e).2 = e + k ∧ d = (strip d e).1 ++ noughts k ∧ valD d = valD (strip d e).1 * 10 ^ k := by
  have h1 : d.reverse.takeWhile z48 = noughts (d.reverse.takeWhile z48).length := by
    apply List.eq_replicate_iff.2
    refine ⟨rfl, fun c hc => ?_⟩
    have := List.all_eq_true.1 (List.all_takeWhile (l := d.reverse) (p := z48)) c hc
    simpa [z48] using this
  have h2 : d.reverse = noughts (d.reverse.takeWhile z48).length ++ d.reverse.dropWhile z48 := by
    rw [← h1]
    exact List.takeWhile_append_dropWhile.symm
  refine ⟨(d.reverse.takeWhile z48).length, rfl, ?_, ?_⟩
  · have := congrArg List.reverse h2
    rw [List.reverse_reverse, List.reverse_append] at this
    rw [show (noughts (d.reverse.takeWhile z48).length).reverse = noughts (d.reverse.takeWhile z48).length by simp [noughts]] at this
    exact this
  · rw [valD_eq d, h2, valR_zeros]
    show _ = valD (d.reverse.dropWhile z48).reverse * _
    rw [valD_rev, ← h2, Nat.mul_comm]
end Go.Proofs.YtlfbnfphocpgeaaGreatDoor.Num
