/- How deep brackets stand in each other, quoted texts left out; a text of JSON's value is so deep, or one deeper. The contract of the document's own answer for layer 9 (package tabulariumref09): Deepest. How long the texts and the digits of a value are that is told of some bytes (pure). The contracts of package jdec's Deepest and of the walk past a quoted text that it calls. The walk of JdecRights, over the contracts of package jdec's Parse and Deepest. Nothing is claimed here. -/
import Derived.Test.YtehpjidajmoggaaGreatDoorJdecMore
import Derived.Test.YtehpjidajmoggaaGreatDoorQuoPrint
import Derived.Test.YtehpjidajmoggaaGreatDoorJdecRef
import Derived.Test.YtehpjidajmoggaaGreatDoorSeen
import Derived.Lib.MinMax
import Derived.Test.YtehpjidajmoggaaGreatDoorJdecLawB
import Derived.Test.YtehpjidajmoggaaGreatDoorTreeOwn
namespace Go.Proofs.YtehpjidajmoggaaGreatDoor.Jdec
open Tre (Val none' Whole Wholes deep deeps)
open Num (nb dg DigAt run)

/-- What is left behind the end of a quoted text. -/
def skipq : List UInt8 → List UInt8
  | [] => []
  | c :: r => if c = 34 then r else if c = 92 then (match r with | [] => [] | _ :: r' => skipq r') else skipq r
theorem skipq_le : ∀ (l : List UInt8), (skipq l).length ≤ l.length
  | [] => Nat.le_refl _
  | [c] => by
    unfold skipq
    split
    · simp
    · split
      · simp
      · exact Nat.le_trans (skipq_le []) (by simp)
  | c :: d :: r => by
    unfold skipq
    split
    · simp
    · split
      · have := skipq_le r
        simp
        omega
      · have := skipq_le (d :: r)
        simp at this ⊢
        omega
def opens (c : UInt8) : Bool := decide (c = 91 ∨ c = 123)
def shuts (c : UInt8) : Bool := decide (c = 93 ∨ c = 125)
/-- With so many open, and so many at most so far. -/
def dp (o m : Nat) (l : List UInt8) : Nat :=
  match l with
  | [] => m
  | c :: r =>
    if c = 34 then dp o m (skipq r)
    else if opens c then dp (o + 1) (max m (o + 1)) r
    else if shuts c then (if o = 0 then m else dp (o - 1) m r)
    else dp o m r
termination_by l.length
decreasing_by
  all_goals simp
  have := skipq_le r
  omega
def deepest (l : List UInt8) : Nat := dp 0 0 l

def plain (c : UInt8) : Bool := decide (c ≠ 34 ∧ c ≠ 91 ∧ c ≠ 123 ∧ c ≠ 93 ∧ c ≠ 125)
theorem dp_plain {o m : Nat} {c : UInt8} {r : List UInt8} (h : plain c = true) : dp o m (c :: r) = dp o m r := by
  have h' : c ≠ 34 ∧ c ≠ 91 ∧ c ≠ 123 ∧ c ≠ 93 ∧ c ≠ 125 := by simpa [plain] using h
  rw [dp, if_neg h'.1, if_neg (by simp [opens, h']), if_neg (by simp [shuts, h'])]
theorem dp_plains {o m : Nat} : ∀ {l : List UInt8} {n : Nat}, (∀ c ∈ l.take n, plain c = true) → dp o m l = dp o m (l.drop n)
  | _, 0, _ => by simp
  | [], n + 1, _ => by simp
  | c :: r, n + 1, h => by
    rw [dp_plain (h c (by simp)), List.drop_succ_cons]
    exact dp_plains fun x hx => h x (by simp [hx])
theorem dp_skip (o m : Nat) (l : List UInt8) : dp o m (skip l) = dp o m l := by
  induction l with
  | nil => rfl
  | cons c r ih =>
    unfold skip at *
    rw [List.dropWhile_cons]
    split
    · rename_i hb
      rw [ih, dp_plain]
      unfold blank at hb
      rcases (by simpa using hb : c = 9 ∨ c = 10 ∨ c = 13 ∨ c = 32) with rfl | rfl | rfl | rfl <;> decide
    · rfl
theorem dp_open {o m : Nat} {c : UInt8} {r : List UInt8} (h : opens c = true) : dp o m (c :: r) = dp (o + 1) (max m (o + 1)) r := by
  have h' : c = 91 ∨ c = 123 := by simpa [opens] using h
  rw [dp, if_neg (by rcases h' with rfl | rfl <;> decide), if_pos h]
theorem dp_shut {o m : Nat} {c : UInt8} {r : List UInt8} (h : shuts c = true) : dp (o + 1) m (c :: r) = dp o m r := by
  have h' : c = 93 ∨ c = 125 := by simpa [shuts] using h
  rw [dp, if_neg (by rcases h' with rfl | rfl <;> decide), if_neg (by rcases h' with rfl | rfl <;> decide), if_pos h, if_neg (by omega)]
  rfl
theorem dp_quote (o m : Nat) (r : List UInt8) : dp o m (34 :: r) = dp o m (skipq r) := by rw [dp, if_pos rfl]

/-- A part of a quoted text is passed over. -/
theorem skipq_cons (c : UInt8) (r : List UInt8) : skipq (c :: r) = if c = 34 then r else if c = 92 then skipq r.tail else skipq r := by
  cases r with
  | nil =>
    rw [skipq.eq_def]
    dsimp only [List.tail_nil]
    rw [show skipq [] = [] from by rw [skipq.eq_def]]
  | cons d q =>
    rw [skipq.eq_def]
    rfl
theorem skipq_pass {c : UInt8} {r : List UInt8} (h1 : c ≠ 34) (h2 : c ≠ 92) : skipq (c :: r) = skipq r := by rw [skipq_cons, if_neg h1, if_neg h2]
theorem skipq_passes : ∀ {l : List UInt8} {n : Nat}, (∀ c ∈ l.take n, c ≠ 34 ∧ c ≠ 92) → skipq l = skipq (l.drop n)
  | _, 0, _ => by simp
  | [], n + 1, _ => by simp
  | c :: r, n + 1, h => by
    have := h c (by simp)
    rw [skipq_pass this.1 this.2, List.drop_succ_cons]
    exact skipq_passes fun x hx => h x (by simp [hx])
theorem hexV_not {c : UInt8} (h : Quo.hexV c ≠ none) : c ≠ 34 ∧ c ≠ 92 := by
  refine ⟨?_, ?_⟩
  · rintro rfl; exact h (by decide)
  · rintro rfl; exact h (by decide)
theorem unitF_hex : ∀ (k n : Nat) (l : List UInt8), (Quo.unitF k n l).2 = 0 → ∀ c ∈ l.take k, c ≠ 34 ∧ c ≠ 92
  | 0, _, _, _ => by simp
  | k + 1, n, [], h => by simp [Quo.unitF] at h
  | k + 1, n, c :: r, h => by
    unfold Quo.unitF at h
    cases hx : Quo.hexV c with
    | none => rw [hx] at h; simp at h
    | some d =>
      rw [hx] at h
      intro x hx'
      rw [List.take_succ_cons] at hx'
      rcases List.mem_cons.1 hx' with rfl | hx'
      · exact hexV_not (by rw [hx]; simp)
      · exact unitF_hex k _ r h x hx'
theorem skipq_esc (d : UInt8) (r : List UInt8) : skipq (92 :: d :: r) = skipq r := by
  rw [skipq_cons, if_neg (by decide), if_pos rfl]
  rfl
theorem skipq_part {l : List UInt8} (h : (Quo.part l).e = 0) (h34 : l.head? ≠ some 34) : skipq l = skipq (l.drop (Quo.part l).size) := by
  match l, h, h34 with
  | [], h, _ => cases h
  | c :: r, h, h34 =>
    have hc34 : c ≠ 34 := by simpa using h34
    unfold Quo.part at h ⊢
    dsimp only at h ⊢
    by_cases c1 : c.toNat < 32
    · rw [if_pos c1] at h; cases h
    rw [if_neg c1] at h ⊢
    by_cases c2 : c ≠ 92
    · rw [if_pos c2] at h ⊢
      by_cases c3 : (Utf.one (c :: r)).2 = 0
      · rw [if_pos c3] at h; cases h
      rw [if_neg c3]
      dsimp only
      obtain ⟨h1, h2, h3⟩ := Utf.one_bytes c3
      apply skipq_passes
      rw [h2]
      by_cases hlo : (Utf.one (c :: r)).1 < 128
      · have e : Utf.enc (Utf.one (c :: r)).1 = [UInt8.ofNat (Utf.one (c :: r)).1] := by
          have := Quo.enc_byte (x := UInt8.ofNat (Utf.one (c :: r)).1) (by rw [UInt8.toNat_ofNat']; omega)
          rw [UInt8.toNat_ofNat', Nat.mod_eq_of_lt (by omega)] at this
          exact this
        intro x hx
        rw [← h2] at hx
        have hl := congrArg List.length h2
        rw [e, List.length_take] at hl
        have hl1 : (Utf.one (c :: r)).2 = 1 := by
          simp at hl h3
          omega
        rw [hl1] at hx
        have : x = c := by simpa using hx
        subst this
        exact ⟨hc34, c2⟩
      · intro x hx
        have := Quo.enc_hi h1 (by omega) x hx
        refine ⟨?_, ?_⟩
        · rintro rfl; exact absurd this (by decide)
        · rintro rfl; exact absurd this (by decide)
    rw [if_neg c2] at h ⊢
    have c2 : c = 92 := by simpa using c2
    subst c2
    match r, h with
    | [], h => cases h
    | d :: r', h =>
      dsimp only at h ⊢
      rw [skipq_esc]
      cases hs : Quo.sign d with
      | some x => rfl
      | none =>
        rw [hs] at h
        dsimp only at h ⊢
        by_cases c4 : d = 117
        · rw [if_pos c4] at h ⊢
          unfold Quo.coded at h ⊢
          by_cases k1 : (Quo.unit r').2 ≠ 0
          · rw [if_pos k1] at h; exact absurd h k1
          rw [if_neg k1] at h ⊢
          have u1 := unitF_hex 4 0 r' (by unfold Quo.unit at k1; omega)
          by_cases k2 : 56320 ≤ (Quo.unit r').1 ∧ (Quo.unit r').1 ≤ 57343
          · rw [if_pos k2] at h; cases h
          rw [if_neg k2] at h ⊢
          by_cases k3 : (Quo.unit r').1 < 55296 ∨ 57343 < (Quo.unit r').1
          · rw [if_pos k3]
            exact skipq_passes u1
          rw [if_neg k3] at h ⊢
          by_cases k4 : Quo.follow (r'.drop 4) ≠ 0
          · rw [if_pos k4] at h; exact absurd h k4
          rw [if_neg k4] at h ⊢
          have k4 : Quo.follow (r'.drop 4) = 0 := by omega
          by_cases k5 : (Quo.unit (r'.drop 6)).2 ≠ 0
          · rw [if_pos k5] at h; exact absurd h k5
          rw [if_neg k5] at h ⊢
          have u2 := unitF_hex 4 0 (r'.drop 6) (by unfold Quo.unit at k5; omega)
          by_cases k6 : (Quo.unit (r'.drop 6)).1 < 56320 ∨ 57343 < (Quo.unit (r'.drop 6)).1
          · rw [if_pos k6] at h; cases h
          rw [if_neg k6]
          dsimp only
          rw [skipq_passes u1]
          have e4 : ∃ y, r'.drop 4 = 92 :: 117 :: y := by
            unfold Quo.follow at k4
            cases ha : r'.drop 4 with
            | nil => rw [ha] at k4; cases k4
            | cons a q =>
              rw [ha] at k4
              dsimp only at k4
              by_cases ea : a = 92
              · rw [if_neg (by simpa using ea)] at k4
                cases q with
                | nil => cases k4
                | cons b q' =>
                  dsimp only at k4
                  by_cases eb : b = 117
                  · exact ⟨q', by rw [ea, eb]⟩
                  · rw [if_pos eb] at k4; cases k4
              · rw [if_pos ea] at k4; cases k4
          obtain ⟨y, ey⟩ := e4
          have e6 : r'.drop 6 = y := by
            have : r'.drop 6 = (r'.drop 4).drop 2 := by rw [List.drop_drop]
            rw [this, ey]
            rfl
          rw [ey, skipq_esc]
          rw [e6] at u2
          rw [skipq_passes u2]
          congr 1
          show y.drop 4 = r'.drop 10
          rw [← e6, List.drop_drop]
        · rw [if_neg c4] at h; cases h
theorem skipq_scanF : ∀ (k : Nat) (l : List UInt8), l.length = k → ∀ (s : List UInt8) (at' : Nat), (Quo.scanF s at' l).e = 0 → at' ≤ (Quo.scanF s at' l).size ∧ skipq l = l.drop ((Quo.scanF s at' l).size - at') := by
  intro k
  induction k using Nat.strongRecOn with
  | ind k ih =>
    intro l hl s at' h
    by_cases h1 : l.head? = some 34
    · rw [Quo.scanF_end h1]
      cases l with
      | nil => cases h1
      | cons c r =>
        have : c = 34 := by simpa using h1
        subst this
        refine ⟨by dsimp only; omega, ?_⟩
        dsimp only
        rw [show at' + 1 - at' = 1 by omega, skipq_cons, if_pos rfl]
        rfl
    · by_cases he : (Quo.part l).e = 0
      · obtain ⟨c, k1, k2, k3, k4⟩ := Quo.part_ok he
        rw [Quo.scanF_on h1 he] at h ⊢
        obtain ⟨i1, i2⟩ := ih (l.drop (Quo.part l).size).length (by rw [List.length_drop]; omega) _ rfl _ _ h
        refine ⟨by omega, ?_⟩
        rw [skipq_part he h1, i2, List.drop_drop]
        congr 1
        omega
      · rw [Quo.scanF_err h1 he] at h
        exact absurd h he
theorem dp_text {o m : Nat} {l : List UInt8} (h : (Quo.scan l).e = 0) : dp o m l = dp o m (l.drop (Quo.scan l).size) := by
  cases l with
  | nil => cases h
  | cons c r =>
    unfold Quo.scan at h ⊢
    dsimp only at h ⊢
    by_cases hc : c ≠ 34
    · rw [if_pos hc] at h; cases h
    · rw [if_neg hc] at h ⊢
      have hc : c = 34 := by simpa using hc
      subst hc
      obtain ⟨h1, h2⟩ := skipq_scanF _ r rfl [] 1 h
      rw [dp_quote, h2]
      congr 1
      obtain ⟨z, hz⟩ : ∃ z, (Quo.scanF [] 1 r).size = z + 1 := ⟨(Quo.scanF [] 1 r).size - 1, by omega⟩
      rw [hz, List.drop_succ_cons]
      rfl

mutual
/-- How many brackets a value stands in each other. -/
def nest : Val → Nat
  | ⟨k, _, _, _, _, vs⟩ => if k = 5 ∨ k = 6 then nests vs + 1 else 0
def nests : List Val → Nat
  | [] => 0
  | v :: r => max (nest v) (nests r)
end
mutual
theorem nest_deep : ∀ v : Val, nest v ≤ deep v ∧ deep v ≤ nest v + 1
  | ⟨k, i, n, s, ks, vs⟩ => by
    have := nests_deeps vs
    rw [nest, deep]
    by_cases hk : k = 5 ∨ k = 6
    · rw [if_pos hk, if_pos hk]; omega
    · rw [if_neg hk, if_neg hk]; omega
theorem nests_deeps : ∀ vs : List Val, nests vs ≤ deeps vs ∧ deeps vs ≤ nests vs + 1
  | [] => by simp [nests, deeps]
  | v :: r => by
    have h1 := nest_deep v
    have h2 := nests_deeps r
    rw [nests, deeps]
    omega
end
theorem nests_snoc (vs : List Val) (x : Val) : nests (vs ++ [x]) = max (nests vs) (nest x) := by
  induction vs with
  | nil => simp [nests]
  | cons v r ih => rw [List.cons_append, nests, nests, ih]; omega
theorem nest_made (obj : Bool) (ks : List (List UInt8)) (vs : List Val) : nest (made obj ks vs) = nests vs + 1 ∧ (made obj ks vs).kids = vs := by
  unfold made
  rw [nest]
  cases obj <;> simp [Val.kids]

theorem numeric_plain {c : UInt8} (h : numeric c.toNat) : plain c = true := by
  unfold numeric at h
  have : ∀ k : UInt8, c = k → k.toNat = c.toNat := fun k e => by rw [e]
  simp only [plain, decide_eq_true_eq]
  refine ⟨?_, ?_, ?_, ?_, ?_⟩ <;> (rintro rfl; revert h; decide)
theorem dp_number {o m : Nat} {l r : List UInt8} {v : Val} (h : number l = .ok v r) : dp o m l = dp o m r := by
  obtain ⟨-, rfl, -⟩ := number_kind h
  apply dp_plains
  intro c hc
  obtain ⟨i, hi, e⟩ := List.getElem_of_mem hc
  rw [List.length_take] at hi
  have hn := scan_numeric l i (by omega)
  unfold Num.nb at hn
  rw [List.getD_eq_getElem?_getD, List.getElem?_eq_getElem (by omega)] at hn
  rw [List.getElem_take] at e
  rw [← e]
  exact numeric_plain hn
theorem word_split (v : Val) : ∀ (w l r : List UInt8) (x : Val), word v w l = .ok x r → l = w ++ r
  | [], l, r, x, h => by
    unfold word at h
    injection h with h1 h2
  | c :: w, [], r, x, h => by unfold word at h; cases h
  | c :: w, d :: l, r, x, h => by
    unfold word at h
    split at h
    · rename_i e
      subst e
      rw [word_split v w l r x h]
      rfl
    · cases h
theorem dp_word {o m : Nat} {v x : Val} {w l r : List UInt8} (hw : ∀ c ∈ w, plain c = true) (h : word v w l = .ok x r) : dp o m l = dp o m r ∧ x = v := by
  refine ⟨?_, (word_left v [] w l r x h).2⟩
  rw [word_split v w l r x h]
  have := dp_plains (o := o) (m := m) (l := w ++ r) (n := w.length) (by simpa using hw)
  simpa using this
theorem head_tail {l : List UInt8} {c : UInt8} (h : l.head? = some c) : l = c :: l.tail := by
  cases l with
  | nil => cases h
  | cons d r => injection h with h; rw [h]; rfl
theorem dp_named {o m : Nat} {obj : Bool} {keys ks : List (List UInt8)} {l r : List UInt8} (h : named obj keys l = .ok ks r) : dp o m l = dp o m r := by
  unfold named at h
  cases obj with
  | false =>
    simp only [Bool.false_eq_true, if_false] at h
    injection h with h1 h2
    rw [h2]
  | true =>
    simp only [if_true] at h
    cases hf : field keys l with
    | no r e => rw [hf] at h; cases h
    | ok k r' =>
      rw [hf] at h
      injection h with h1 h2
      subst h2
      clear h1
      unfold field at hf
      split at hf
      · unfold here at hf; split at hf <;> cases hf
      · split at hf
        · cases hf
        · rename_i h2
          split at hf
          · cases hf
          · split at hf
            · unfold here at hf; split at hf <;> cases hf
            · rename_i h5
              injection hf with h6 h7
              have h5 : (skip (l.drop (Quo.scan l).size)).head? = some 58 := by simpa using h5
              have e := head_tail h5
              rw [dp_text (by omega), ← dp_skip, e, dp_plain (by decide), ← dp_skip, h7]
def Dp (val : List UInt8 → Got Val) : Prop := ∀ (l r : List UInt8) (v : Val), val l = .ok v r → ∀ o m, o ≤ m → dp o m l = dp o (max m (o + nest v)) r
theorem close_shuts (obj : Bool) : shuts (close obj) = true := by cases obj <;> decide
theorem items_dp {val : List UInt8 → Got Val} (hd : Dp val) : ∀ (n : Nat) (l : List UInt8), l.length = n → ∀ (obj : Bool) (keys : List (List UInt8)) (kids : List Val) (v : Val) (r : List UInt8), items val obj keys kids l = .ok v r →
    nests kids ≤ nests v.kids ∧ nest v = nests v.kids + 1 ∧ ∀ o m, o + 1 + nests kids ≤ m → dp (o + 1) m l = dp o (max m (o + 1 + nests v.kids)) r := by
  intro n
  induction n using Nat.strongRecOn with
  | ind n ih =>
    intro l hn obj keys kids v r h
    unfold items at h
    cases hf : named obj keys l with
    | no r e => rw [hf] at h; cases h
    | ok ks l1 =>
      rw [hf] at h
      dsimp only at h
      cases hg : val l1 with
      | no r e => rw [hg] at h; cases h
      | ok x r1 =>
        rw [hg] at h
        dsimp only at h
        have hx := hd _ _ _ hg
        by_cases c1 : (skip r1).head? = some (close obj)
        · rw [if_pos c1] at h
          injection h with h1 h2
          obtain ⟨m1, m2⟩ := nest_made obj ks (kids ++ [x])
          rw [h1] at m1 m2
          rw [m2, nests_snoc]
          refine ⟨by omega, by rw [m1, nests_snoc], fun o m hm => ?_⟩
          rw [dp_named hf, hx (o + 1) m (by omega), ← dp_skip, head_tail c1, dp_shut (close_shuts obj), h2]
          congr 1
          omega
        · rw [if_neg c1] at h
          by_cases c2 : (skip r1).head? ≠ some 44
          · rw [if_pos c2] at h
            unfold here at h
            split at h <;> cases h
          · rw [if_neg c2] at h
            have c3 : (skip r1).head? = some 44 := by simpa using c2
            split at h
            · rename_i hlt
              obtain ⟨i1, i2, i3⟩ := ih _ (by omega) _ rfl obj ks _ _ _ h
              rw [nests_snoc] at i1 i3
              refine ⟨by omega, i2, fun o m hm => ?_⟩
              rw [dp_named hf, hx (o + 1) m (by omega), ← dp_skip, head_tail c3, dp_plain (by decide), ← dp_skip, i3 o _ (by omega)]
              congr 1
              omega
            · cases h
theorem many_dp {val : List UInt8 → Got Val} (hd : Dp val) {c : UInt8} {t r : List UInt8} {v : Val} (hc : opens c = true) (h : many val (c :: t) = .ok v r) {o m : Nat} (hm : o ≤ m) : dp o m (c :: t) = dp o (max m (o + nest v)) r := by
  rw [dp_open hc, ← dp_skip]
  unfold many at h
  by_cases c1 : (skip (c :: t).tail).head? = some (close (decide ((c :: t).head? = some 123)))
  · rw [if_pos c1] at h
    have c1 : (skip t).head? = some (close (decide ((c :: t).head? = some 123))) := c1
    injection h with h1 h2
    have h2 : (skip t).tail = r := h2
    rw [← h1, (nest_made _ _ _).1, head_tail c1, dp_shut (close_shuts _), h2, nests]
  · rw [if_neg c1] at h
    have h : items val (decide ((c :: t).head? = some 123)) [] [] (skip t) = .ok v r := h
    obtain ⟨i1, i2, i3⟩ := items_dp hd _ _ rfl _ _ _ _ _ h
    rw [nests] at i3
    rw [i3 o _ (by omega), i2]
    congr 1
    omega
theorem value_dp : ∀ k : Nat, Dp (value k)
  | 0, l, r, v, h, o, m, _ => by
    unfold value at h
    cases l with
    | nil => cases h
    | cons c q =>
      dsimp only [List.head?_cons] at h
      split at h <;> cases h
  | k + 1, l, r, v, h, o, m, hm => by
    unfold value at h
    cases l with
    | nil => cases h
    | cons c q =>
      dsimp only [List.head?_cons] at h
      split at h
      · rename_i hb
        unfold read at h
        dsimp only [List.head?_cons] at h
        have z : ∀ x : Val, x = v → nest x = 0 → max m (o + nest v) = m := fun x e hx => by rw [← e, hx]; omega
        split at h
        · have hk := (number_kind h).1
          obtain ⟨k1, i1, n1, s1, ks1, vs1⟩ := v
          have hk : k1 = 3 := hk
          subst hk
          rw [z _ rfl (by rw [nest]; simp), dp_number h]
        · rename_i c1
          split at h
          · obtain ⟨e1, e2⟩ := dp_word (o := o) (m := m) (by decide) h
            rw [z _ e2.symm (by rw [nest]; simp), e1]
          · rename_i c2
            split at h
            · obtain ⟨e1, e2⟩ := dp_word (o := o) (m := m) (by decide) h
              rw [z _ e2.symm (by rw [nest]; simp), e1]
            · rename_i c3
              split at h
              · obtain ⟨e1, e2⟩ := dp_word (o := o) (m := m) (by decide) h
                rw [z _ e2.symm (by rw [nest]; simp), e1]
              · rename_i c4
                split at h
                · unfold text at h
                  split at h
                  · cases h
                  · rename_i hq
                    injection h with h1 h2
                    rw [z _ h1 (by rw [nest]; simp), dp_text (by omega), h2]
                · rename_i c5
                  exact many_dp (value_dp k) (by
                    unfold begins at hb
                    rw [Bool.or_eq_true, decide_eq_true_eq] at hb
                    unfold opens
                    rw [decide_eq_true_eq]
                    rcases hb with hb | hb
                    · rcases hb with h | h | h | h | h | h
                      · exact absurd h c2
                      · exact absurd h c3
                      · exact absurd h c4
                      · exact absurd h c5
                      · exact .inl h
                      · exact .inr h
                    · exact absurd hb c1) h hm
      · cases h
/-- What is told is as deep as its brackets, or one deeper. -/
theorem parse_deep {s r : List UInt8} {v : Val} (h : parse s = .ok v r) : deep v = deepest s ∨ deep v = deepest s + 1 := by
  obtain ⟨q, hv, hq, -, -⟩ := parse_ok h
  have e := value_dp 64 _ _ _ hv 0 0 (Nat.le_refl _)
  have : deepest s = nest v := by
    unfold deepest
    rw [← dp_skip, e, ← dp_skip, hq, dp]
    omega
  have := nest_deep v
  omega
end Go.Proofs.YtehpjidajmoggaaGreatDoor.Jdec
namespace Go.Proofs.YtehpjidajmoggaaGreatDoor.Jdec
open Go.RowKit Kit Txt
open Utf (nb)

theorem byte_nb {l : List UInt8} {q : Nat} (h : q < l.length) : l.drop q = UInt8.ofNat (nb l q) :: l.drop (q + 1) := by
  rw [List.drop_eq_getElem_cons h, nb_get h, UInt8.ofNat_toNat]
theorem dp_end {o m q : Nat} {l : List UInt8} (h : l.length ≤ q) : dp o m (l.drop q) = m := by
  rw [List.drop_eq_nil_of_le h, dp]
theorem dp_at {o m q : Nat} {l : List UInt8} (h : q < l.length) : dp o m (l.drop q) =
    if nb l q = 34 then dp o m (skipq (l.drop (q + 1))) else if nb l q = 91 ∨ nb l q = 123 then dp (o + 1) (max m (o + 1)) (l.drop (q + 1)) else if nb l q = 93 ∨ nb l q = 125 then (if o = 0 then m else dp (o - 1) m (l.drop (q + 1))) else dp o m (l.drop (q + 1)) := by
  rw [nb_get h, List.drop_eq_getElem_cons h, dp]
  have e : ∀ k : UInt8, (l[q] = k ↔ l[q].toNat = k.toNat) := fun k => ⟨fun e => by rw [e], fun e => UInt8.toNat_inj.1 e⟩
  simp only [opens, shuts, decide_eq_true_eq, e]
  rfl
theorem skipq_end {q : Nat} {l : List UInt8} (h : l.length ≤ q) : skipq (l.drop q) = l.drop (q + 1) := by
  rw [List.drop_eq_nil_of_le h, List.drop_eq_nil_of_le (by omega), skipq]
theorem skipq_at {q : Nat} {l : List UInt8} (h : q < l.length) : skipq (l.drop q) = if nb l q = 34 then l.drop (q + 1) else if nb l q = 92 then skipq (l.drop (q + 2)) else skipq (l.drop (q + 1)) := by
  rw [nb_get h, List.drop_eq_getElem_cons h, skipq_cons]
  have e : ∀ k : UInt8, (l[q] = k ↔ l[q].toNat = k.toNat) := fun k => ⟨fun e => by rw [e], fun e => UInt8.toNat_inj.1 e⟩
  simp only [e, List.tail_drop]
  rfl

set_option maxRecDepth 100000 in
set_option maxHeartbeats 8000000 in
theorem rdeepest_any {w : World} {l : List UInt8} (hl : l.length < 100000) :
    Calls Tryz.prog 8 #[.string (txt l)] w fun e w' => e = .returned (.int .i64 (deepest l)) ∧ w' = w := by
  have hs := txt_size l
  go_enter Tryz.func8, Tryz.ntmps8
  go_wp2_with fail
  go_loopw [3, 4, 5] (fun a b c wr => ∃ o m q : Nat, a = .int .i64 o ∧ b = .int .i64 m ∧ c = .int .i64 q ∧ wr = w ∧ q ≤ l.length + 2 ∧ o ≤ m ∧ m ≤ q ∧ deepest l = dp o m (l.drop q)) (fun _ _ c _ => l.length + 2 - (intOf c).toNat)
  case atStart => exact ⟨0, 0, 0, rfl, rfl, rfl, rfl, by omega, by omega, by omega, rfl⟩
  case round =>
    obtain ⟨o, m, q, rfl, rfl, rfl, rfl, hq, ho, hm, hk⟩ := hrel
    have hwq : IntKind.i64.wrap ((q : Int) + 1) = (q : Int) + 1 := by simp only [IntKind.wrap, IntKind.signed, IntKind.bits]; simp; omega
    have hwo : IntKind.i64.wrap ((o : Int) + 1) = (o : Int) + 1 := by simp only [IntKind.wrap, IntKind.signed, IntKind.bits]; simp; omega
    by_cases hlt : q < l.length
    · have hlt1 : decide (q < l.length) = true := decide_eq_true hlt
      have hlt' : (q : Int) < (l.length : Int) := by omega
      have hix := idx hlt
      rw [dp_at hlt] at hk
      obtain ⟨x, hx⟩ : ∃ x, nb l q = x := ⟨_, rfl⟩
      rw [hx] at hk hix
      clear hx
      by_cases h34 : x = 34
      · subst h34
        rw [if_pos rfl] at hk
        have HK := Lib.hid hk
        clear hk
        go_wp2_with fail
        obtain ⟨wo, hwo⟩ : ∃ wo : World, wo = wr := ⟨wr, rfl⟩
        subst hwo
        go_loopw [5] (fun c wx => ∃ p : Nat, c = .int .i64 p ∧ wx = wo ∧ q + 1 ≤ p ∧ p ≤ l.length + 1 ∧ deepest l = dp o m (skipq (l.drop p))) (fun c _ => l.length + 1 - (intOf c).toNat)
        case atStart => exact ⟨q + 1, by go_num, rfl, by omega, by omega, HK.out⟩
        case round =>
          clear HK hix hlt1 hlt'
          obtain ⟨p, rfl, rfl, hp, hp2, hk⟩ := hrel
          have hwp : IntKind.i64.wrap ((p : Int) + 1) = (p : Int) + 1 := by simp only [IntKind.wrap, IntKind.signed, IntKind.bits]; simp; omega
          have hwp2 : IntKind.i64.wrap ((p : Int) + 1 + 1) = (p : Int) + 1 + 1 := by simp only [IntKind.wrap, IntKind.signed, IntKind.bits]; simp; omega
          by_cases hpl : p < l.length
          · have hlt1 : decide (p < l.length) = true := decide_eq_true hpl
            have hlt' : (p : Int) < (l.length : Int) := by omega
            have hix := idx hpl
            rw [skipq_at hpl] at hk
            obtain ⟨y, hy⟩ : ∃ y, nb l p = y := ⟨_, rfl⟩
            rw [hy] at hk hix
            clear hy
            by_cases y34 : y = 34
            · subst y34
              rw [if_pos rfl] at hk
              have HK := Lib.hid hk
              clear hk
              go_wp2_with fail
              go_roundw
              case rel => exact ⟨o, m, p + 1, rfl, rfl, by go_num, by first | rfl | simp, by omega, by omega, by omega, HK.out⟩
              case measure => simp [intOf]; omega
            · rw [if_neg y34] at hk
              have h34' : ((y : Int) != 34) = true := by simp; omega
              by_cases y92 : y = 92
              · subst y92
                rw [if_pos rfl] at hk
                have HK := Lib.hid hk
                clear hk
                go_wp2_with fail
                go_roundw
                case rel => exact ⟨p + 2, by go_num, by first | rfl | simp, by omega, by omega, HK.out⟩
                case measure => simp [intOf]; omega
              · rw [if_neg y92] at hk
                have h92' : ((y : Int) == 92) = false := by simp; omega
                have HK := Lib.hid hk
                clear hk
                go_wp2_with fail
                go_roundw
                case rel => exact ⟨p + 1, by go_num, by first | rfl | simp, by omega, by omega, HK.out⟩
                case measure => simp [intOf]; omega
          · have hlt1 : decide (p < l.length) = false := decide_eq_false hpl
            rw [skipq_end (by omega)] at hk
            have HK := Lib.hid hk
            clear hk
            go_wp2_with fail
            go_roundw
            case rel => exact ⟨o, m, p + 1, rfl, rfl, by go_num, by first | rfl | simp, by omega, by omega, by omega, HK.out⟩
            case measure => simp [intOf]; omega
      · rw [if_neg h34] at hk
        have h34' : ((x : Int) == 34) = false := by simp; omega
        by_cases hop : x = 91 ∨ x = 123
        · rw [if_pos hop] at hk
          by_cases hmo : o + 1 ≤ m
          · have hmax : max m (o + 1) = m := by omega
            have hgt : ¬ ((m : Int) < (o : Int) + 1) := by omega
            have hneg : ¬ ((o : Int) + 1 < 0) := by omega
            rw [hmax] at hk
            have HK := Lib.hid hk
            clear hk hmax
            rcases hop with rfl | rfl
            all_goals
              go_wp2_with fail
              go_roundw
              case rel => exact ⟨o + 1, m, q + 1, by go_num, rfl, by go_num, by first | rfl | simp, by omega, by omega, by omega, HK.out⟩
              case measure => simp [intOf]; omega
          · have hmax : max m (o + 1) = o + 1 := by omega
            have hgt : (m : Int) < (o : Int) + 1 := by omega
            have hneg : ¬ ((o : Int) + 1 < 0) := by omega
            rw [hmax] at hk
            have HK := Lib.hid hk
            clear hk hmax
            rcases hop with rfl | rfl
            all_goals
              go_wp2_with fail
              go_roundw
              case rel => exact ⟨o + 1, o + 1, q + 1, by go_num, by go_num, by go_num, by first | rfl | simp, by omega, by omega, by omega, HK.out⟩
              case measure => simp [intOf]; omega
        · rw [if_neg hop] at hk
          have h91' : ((x : Int) == 91) = false := by simp; omega
          have h123' : ((x : Int) == 123) = false := by simp; omega
          by_cases hsh : x = 93 ∨ x = 125
          · rw [if_pos hsh] at hk
            have hwm : IntKind.i64.wrap ((o : Int) - 1) = (o : Int) - 1 := by simp only [IntKind.wrap, IntKind.signed, IntKind.bits]; simp; omega
            by_cases ho0 : o = 0
            · rw [if_pos ho0] at hk
              subst ho0
              have HC := Lib.hid hk
              have hneg : ((0 : Nat) : Int) - 1 < 0 := by omega
              clear hk
              rcases hsh with rfl | rfl
              all_goals
                go_wp2_with fail
                exact bodyPost_ret (v := .int .i64 m) (by simp [results, Tryz.results8, go_sem, *]) rfl ⟨by rw [HC.out], by first | rfl | simp⟩
            · rw [if_neg ho0] at hk
              have HK := Lib.hid hk
              have hneg : ¬ ((o : Int) - 1 < 0) := by omega
              have hgt : ¬ ((m : Int) < (o : Int) - 1) := by omega
              clear hk
              rcases hsh with rfl | rfl
              all_goals
                go_wp2_with fail
                go_roundw
                case rel => exact ⟨o - 1, m, q + 1, by go_num, rfl, by go_num, by first | rfl | simp, by omega, by omega, by omega, HK.out⟩
                case measure => simp [intOf]; omega
          · rw [if_neg hsh] at hk
            have h93' : ((x : Int) == 93) = false := by simp; omega
            have h125' : ((x : Int) == 125) = false := by simp; omega
            have hneg : ¬ ((o : Int) < 0) := by omega
            have hgt : ¬ ((m : Int) < (o : Int)) := by omega
            have HK := Lib.hid hk
            clear hk
            go_wp2_with fail
            go_roundw
            case rel => exact ⟨o, m, q + 1, rfl, rfl, by go_num, by first | rfl | simp, by omega, by omega, by omega, HK.out⟩
            case measure => simp [intOf]; omega
    · have hlt1 : decide (q < l.length) = false := decide_eq_false hlt
      rw [dp_end (by omega)] at hk
      have HC := Lib.hid hk
      clear hk
      go_wp2_with fail
      exact bodyPost_ret (v := .int .i64 m) (by simp [results, Tryz.results8, go_sem, *]) rfl ⟨by rw [HC.out], rfl⟩
end Go.Proofs.YtehpjidajmoggaaGreatDoor.Jdec
namespace Go.Proofs.YtehpjidajmoggaaGreatDoor.Jdec
open Tre (Val none' Whole Wholes deep deeps)

/-- All its texts and digits are shorter than what a text in memory may be. -/
inductive Small : Val → Prop
  | mk (v : Val) (h1 : v.str.length < 1000000000) (h2 : v.num.dig.length < 1000000000) (h3 : ∀ x ∈ v.keys, x.length < 1000000000) (h4 : ∀ x ∈ v.kids, Small x) : Small v
theorem Small.out {v : Val} (h : Small v) : v.str.length < 1000000000 ∧ v.num.dig.length < 1000000000 ∧ (∀ x ∈ v.keys, x.length < 1000000000) ∧ ∀ x ∈ v.kids, Small x := by
  cases h with
  | mk _ h1 h2 h3 h4 => exact ⟨h1, h2, h3, h4⟩
theorem small_mk {k : Int} {i : Bool} {n : Num.Dec} {s : List UInt8} {ks : List (List UInt8)} {vs : List Val} (h1 : s.length < 1000000000) (h2 : n.dig.length < 1000000000) (h3 : ∀ x ∈ ks, x.length < 1000000000) (h4 : ∀ x ∈ vs, Small x) : Small ⟨k, i, n, s, ks, vs⟩ := .mk _ h1 h2 h3 h4
theorem right_dig {n : Num.Dec} (h : Num.Right n) : n.dig.length ≤ 1000 := by
  unfold Num.Right at h
  split at h
  · rename_i e
    rw [e]
    simp
  · exact h.1
theorem zero_dig : Num.zero.dig.length < 1000000000 := by decide
def Sm (val : List UInt8 → Got Val) : Prop := ∀ (l r : List UInt8) (v : Val), l.length < 100000000 → val l = .ok v r → r.length ≤ l.length ∧ Small v
theorem number_small {l r : List UInt8} {v : Val} (h : number l = .ok v r) : Small v := by
  unfold number at h
  split at h
  · split at h <;> cases h
  · split at h
    · cases h
    · injection h with h1 h2
      rw [← h1]
      refine small_mk (by decide) ?_ (by simp) (by simp)
      have := right_dig (num_right (l.take (Num.scan l)))
      omega
theorem text_small {l r : List UInt8} {v : Val} (hl : l.length < 100000000) (h : text l = .ok v r) : Small v := by
  unfold text at h
  split at h
  · cases h
  · injection h with h1 h2
    rw [← h1]
    have := Quo.scan_len l
    exact small_mk (by omega) zero_dig (by simp) (by simp)
theorem named_small {obj : Bool} {keys ks : List (List UInt8)} {l r : List UInt8} (hl : l.length < 100000000) (hk : ∀ x ∈ keys, x.length < 1000000000) (h : named obj keys l = .ok ks r) : r.length ≤ l.length ∧ ∀ x ∈ ks, x.length < 1000000000 := by
  refine ⟨((named_good obj keys l).and _ _ h).2.1, ?_⟩
  unfold named at h
  cases obj with
  | false =>
    simp only [Bool.false_eq_true, if_false] at h
    injection h with h1 h2
    rw [← h1]
    exact hk
  | true =>
    simp only [if_true] at h
    cases hf : field keys l with
    | no r e => rw [hf] at h; cases h
    | ok k r' =>
      rw [hf] at h
      injection h with h1 h2
      rw [← h1]
      intro x hx
      rcases List.mem_append.1 hx with hx | hx
      · exact hk x hx
      · rw [List.mem_singleton.1 hx]
        unfold field at hf
        have := Quo.scan_len l
        split at hf
        · unfold here at hf; split at hf <;> cases hf
        · split at hf
          · cases hf
          · split at hf
            · cases hf
            · split at hf
              · unfold here at hf; split at hf <;> cases hf
              · injection hf with h6 h7
                rw [← h6]
                omega
theorem made_small {obj : Bool} {keys : List (List UInt8)} {kids : List Val} (h1 : ∀ x ∈ keys, x.length < 1000000000) (h2 : ∀ x ∈ kids, Small x) : Small (made obj keys kids) :=
  small_mk (by decide) zero_dig h1 h2
theorem items_small {val : List UInt8 → Got Val} (hd : Sm val) : ∀ (n : Nat) (l : List UInt8), l.length = n → ∀ (obj : Bool) (keys : List (List UInt8)) (kids : List Val) (v : Val) (r : List UInt8), l.length < 100000000 → (∀ x ∈ keys, x.length < 1000000000) → (∀ x ∈ kids, Small x) →
    items val obj keys kids l = .ok v r → Small v := by
  intro n
  induction n using Nat.strongRecOn with
  | ind n ih =>
    intro l hn obj keys kids v r hl hk hv h
    unfold items at h
    cases hf : named obj keys l with
    | no r e => rw [hf] at h; cases h
    | ok ks l1 =>
      rw [hf] at h
      dsimp only at h
      obtain ⟨n1, n2⟩ := named_small hl hk hf
      cases hg : val l1 with
      | no r e => rw [hg] at h; cases h
      | ok x r1 =>
        rw [hg] at h
        dsimp only at h
        obtain ⟨x1, x2⟩ := hd _ _ _ (by omega) hg
        have hkids : ∀ y ∈ kids ++ [x], Small y := fun y hy => by
          rcases List.mem_append.1 hy with h | h
          · exact hv y h
          · rw [List.mem_singleton.1 h]
            exact x2
        by_cases c1 : (skip r1).head? = some (close obj)
        · rw [if_pos c1] at h
          injection h with h1 h2
          rw [← h1]
          exact made_small n2 hkids
        · rw [if_neg c1] at h
          by_cases c2 : (skip r1).head? ≠ some 44
          · rw [if_pos c2] at h
            unfold here at h
            split at h <;> cases h
          · rw [if_neg c2] at h
            split at h
            · rename_i hlt
              exact ih _ (by omega) _ rfl obj ks _ _ _ (by omega) n2 hkids h
            · cases h
theorem many_small {val : List UInt8 → Got Val} (hd : Sm val) {l r : List UInt8} {v : Val} (hl : l.length < 100000000) (h : many val l = .ok v r) : Small v := by
  unfold many at h
  split at h
  · injection h with h1 h2
    rw [← h1]
    exact made_small (by simp) (by simp)
  · refine items_small hd _ _ rfl _ _ _ _ _ ?_ (by simp) (by simp) h
    have := skip_le l.tail
    rw [List.length_tail] at this
    omega
theorem value_small : ∀ k : Nat, Sm (value k)
  | 0, l, r, v, _, h => by
    unfold value at h
    split at h
    · cases h
    · split at h <;> cases h
  | k + 1, l, r, v, hl, h => by
    refine ⟨((value_good (k + 1) l).and _ _ h).1.length_le, ?_⟩
    unfold value at h
    split at h
    · cases h
    · split at h
      · unfold read at h
        split at h
        · cases h
        · split at h
          · exact number_small h
          · split at h
            · rw [(word_left _ [] _ _ _ _ h).2]
              exact small_mk (by decide) zero_dig (by simp) (by simp)
            · split at h
              · rw [(word_left _ [] _ _ _ _ h).2]
                exact small_mk (by decide) zero_dig (by simp) (by simp)
              · split at h
                · rw [(word_left _ [] _ _ _ _ h).2]
                  exact small_mk (by decide) zero_dig (by simp) (by simp)
                · split at h
                  · exact text_small hl h
                  · exact many_small (value_small k) hl h
      · cases h
theorem parse_small {s r : List UInt8} {v : Val} (hs : s.length < 100000000) (h : parse s = .ok v r) : Small v := by
  obtain ⟨q, hv, -⟩ := parse_ok h
  have := skip_le s
  exact (value_small 64 _ _ _ (by omega) hv).2
end Go.Proofs.YtehpjidajmoggaaGreatDoor.Jdec
namespace Go.Proofs.YtehpjidajmoggaaGreatDoor.Jdec
open Go.RowKit Kit Txt
open Utf (nb)

set_option maxRecDepth 100000 in
set_option maxHeartbeats 8000000 in
theorem toend_any {w : World} {l : List UInt8} (h1 : 1 ≤ l.length) (hl : l.length < 100000) :
    Calls Tryz.prog 15 #[.string (txt l)] w fun e w' => (∃ t : Nat, e = .returned (.int .i64 t) ∧ t ≤ l.length + 1 ∧ skipq (l.drop 1) = l.drop (t + 1)) ∧ w' = w := by
  have hs := txt_size l
  go_enter Tryz.func15, Tryz.ntmps15
  go_wp2_with fail
  go_loopw [3] (fun c wx => ∃ p : Nat, c = .int .i64 p ∧ wx = w ∧ 1 ≤ p ∧ p ≤ l.length + 1 ∧ skipq (l.drop 1) = skipq (l.drop p)) (fun c _ => l.length + 1 - (intOf c).toNat)
  case atStart => exact ⟨1, rfl, rfl, by omega, by omega, rfl⟩
  case round =>
    obtain ⟨p, rfl, rfl, hp, hp2, hk⟩ := hrel
    have hwp : IntKind.i64.wrap ((p : Int) + 1) = (p : Int) + 1 := by simp only [IntKind.wrap, IntKind.signed, IntKind.bits]; simp; omega
    have hwp2 : IntKind.i64.wrap ((p : Int) + 1 + 1) = (p : Int) + 1 + 1 := by simp only [IntKind.wrap, IntKind.signed, IntKind.bits]; simp; omega
    by_cases hpl : p < l.length
    · have hlt1 : decide (p < l.length) = true := decide_eq_true hpl
      have hlt' : (p : Int) < (l.length : Int) := by omega
      have hix := idx hpl
      rw [skipq_at hpl] at hk
      obtain ⟨y, hy⟩ : ∃ y, nb l p = y := ⟨_, rfl⟩
      rw [hy] at hk hix
      clear hy
      by_cases y34 : y = 34
      · subst y34
        rw [if_pos rfl] at hk
        have HK := Lib.hid hk
        clear hk
        go_wp2_with fail
        exact bodyPost_ret (v := .int .i64 p) (by simp [results, Tryz.results15, go_sem, *]) rfl ⟨⟨p, rfl, hp2, HK.out⟩, by first | rfl | simp⟩
      · rw [if_neg y34] at hk
        have h34' : ((y : Int) != 34) = true := by simp; omega
        by_cases y92 : y = 92
        · subst y92
          rw [if_pos rfl] at hk
          have HK := Lib.hid hk
          clear hk
          go_wp2_with fail
          go_roundw
          case rel => exact ⟨p + 2, by go_num, by first | rfl | simp, by omega, by omega, HK.out⟩
          case measure => simp [intOf]; omega
        · rw [if_neg y92] at hk
          have h92' : ((y : Int) == 92) = false := by simp; omega
          have HK := Lib.hid hk
          clear hk
          go_wp2_with fail
          go_roundw
          case rel => exact ⟨p + 1, by go_num, by first | rfl | simp, by omega, by omega, HK.out⟩
          case measure => simp [intOf]; omega
    · have hlt1 : decide (p < l.length) = false := decide_eq_false hpl
      rw [skipq_end (q := p) (by omega)] at hk
      have HK := Lib.hid hk
      clear hk
      go_wp2_with fail
      exact bodyPost_ret (v := .int .i64 p) (by simp [results, Tryz.results15, go_sem, *]) rfl ⟨⟨p, rfl, hp2, HK.out⟩, by first | rfl | simp⟩

set_option maxRecDepth 100000 in
set_option maxHeartbeats 8000000 in
theorem deepest_any {w : World} {l : List UInt8} (hl : l.length < 100000) :
    Calls Tryz.prog 7 #[.string (txt l)] w fun e w' => e = .returned (.int .i64 (deepest l)) ∧ w' = w := by
  have hs := txt_size l
  go_enter Tryz.func7, Tryz.ntmps7
  go_wp2_with fail
  go_loopw [3, 4, 5] (fun a b c wr => ∃ o m q : Nat, a = .int .i64 o ∧ b = .int .i64 m ∧ c = .int .i64 q ∧ wr = w ∧ q ≤ l.length + 2 ∧ o ≤ m ∧ m ≤ q ∧ deepest l = dp o m (l.drop q)) (fun _ _ c _ => l.length + 2 - (intOf c).toNat)
  case atStart => exact ⟨0, 0, 0, rfl, rfl, rfl, rfl, by omega, by omega, by omega, rfl⟩
  case round =>
    obtain ⟨o, m, q, rfl, rfl, rfl, rfl, hq, ho, hm, hk⟩ := hrel
    have hwq : IntKind.i64.wrap ((q : Int) + 1) = (q : Int) + 1 := by simp only [IntKind.wrap, IntKind.signed, IntKind.bits]; simp; omega
    have hwo : IntKind.i64.wrap ((o : Int) + 1) = (o : Int) + 1 := by simp only [IntKind.wrap, IntKind.signed, IntKind.bits]; simp; omega
    by_cases hlt : q < l.length
    · have hlt1 : decide (q < l.length) = true := decide_eq_true hlt
      have hlt' : (q : Int) < (l.length : Int) := by omega
      have hix := idx hlt
      rw [dp_at hlt] at hk
      obtain ⟨x, hx⟩ : ∃ x, nb l q = x := ⟨_, rfl⟩
      rw [hx] at hk hix
      clear hx
      by_cases h34 : x = 34
      · subst h34
        rw [if_pos rfl] at hk
        have HK := Lib.hid hk
        have hsl := slL (l := l) (z := (q : Int)) (k := q) rfl (by omega)
        have hT := Lib.hid (toend_any (w := wr) (l := l.drop q) (by rw [List.length_drop]; omega) (by rw [List.length_drop]; omega))
        have HL := Lib.hid (show (l.drop q).length = l.length - q from List.length_drop ..)
        have HD := Lib.hid (show ∀ n, (l.drop q).drop n = l.drop (q + n) from fun n => List.drop_drop ..)
        clear hk
        generalize l.drop q = lq at *
        go_wp2_with fail
        refine hT.out.mono ?_
        rintro e w1 ⟨⟨t, rfl, ht, hts⟩, rfl⟩
        rw [HD.out, HD.out] at hts
        rw [HL.out] at ht
        have hwt : IntKind.i64.wrap ((q : Int) + (t : Int)) = (q : Int) + (t : Int) := by simp only [IntKind.wrap, IntKind.signed, IntKind.bits]; simp; omega
        have hwt1 : IntKind.i64.wrap ((q : Int) + (t : Int) + 1) = (q : Int) + (t : Int) + 1 := by simp only [IntKind.wrap, IntKind.signed, IntKind.bits]; simp; omega
        have HK2 := Lib.hid (HK.out.trans (by rw [hts]))
        clear hts
        go_wp2_with fail
        go_roundw
        case rel => exact ⟨o, m, q + (t + 1), rfl, rfl, by go_num, by first | rfl | simp, by omega, by omega, by omega, HK2.out⟩
        case measure => simp [intOf]; omega
      · rw [if_neg h34] at hk
        have h34' : ((x : Int) == 34) = false := by simp; omega
        by_cases hop : x = 91 ∨ x = 123
        · rw [if_pos hop] at hk
          have hmax : max (m : Int) ((o : Int) + 1) = ((max m (o + 1) : Nat) : Int) := by omega
          obtain ⟨mm, hmm⟩ : ∃ mm, max m (o + 1) = mm := ⟨_, rfl⟩
          have hm1 : o + 1 ≤ mm := by omega
          have hm2 : mm ≤ q + 1 := by omega
          rw [hmm] at hk hmax
          have HK := Lib.hid hk
          clear hk hmm
          rcases hop with rfl | rfl
          all_goals
            go_wp2_with fail
            go_roundw
            case rel => exact ⟨o + 1, mm, q + 1, by go_num, by go_num, by go_num, by first | rfl | simp, by omega, by omega, by omega, HK.out⟩
            case measure => simp [intOf]; omega
        · rw [if_neg hop] at hk
          have h91' : ((x : Int) == 91) = false := by simp; omega
          have h123' : ((x : Int) == 123) = false := by simp; omega
          by_cases hsh : x = 93 ∨ x = 125
          · rw [if_pos hsh] at hk
            have hwm : IntKind.i64.wrap ((o : Int) - 1) = (o : Int) - 1 := by simp only [IntKind.wrap, IntKind.signed, IntKind.bits]; simp; omega
            by_cases ho0 : o = 0
            · rw [if_pos ho0] at hk
              subst ho0
              have HC := Lib.hid hk
              clear hk
              rcases hsh with rfl | rfl
              all_goals
                go_wp2_with fail
                exact bodyPost_ret (v := .int .i64 m) (by simp [results, Tryz.results7, go_sem, *]) rfl ⟨by rw [HC.out], by first | rfl | simp⟩
            · rw [if_neg ho0] at hk
              have HK := Lib.hid hk
              have hne : ((o : Int) == 0) = false := by simp; omega
              clear hk
              rcases hsh with rfl | rfl
              all_goals
                go_wp2_with fail
                go_roundw
                case rel => exact ⟨o - 1, m, q + 1, by go_num, rfl, by go_num, by first | rfl | simp, by omega, by omega, by omega, HK.out⟩
                case measure => simp [intOf]; omega
          · rw [if_neg hsh] at hk
            have h93' : ((x : Int) == 93) = false := by simp; omega
            have h125' : ((x : Int) == 125) = false := by simp; omega
            have HK := Lib.hid hk
            clear hk
            go_wp2_with fail
            go_roundw
            case rel => exact ⟨o, m, q + 1, rfl, rfl, by go_num, by first | rfl | simp, by omega, by omega, by omega, HK.out⟩
            case measure => simp [intOf]; omega
    · have hlt1 : decide (q < l.length) = false := decide_eq_false hlt
      rw [dp_end (by omega)] at hk
      have HC := Lib.hid hk
      clear hk
      go_wp2_with fail
      exact bodyPost_ret (v := .int .i64 m) (by simp [results, Tryz.results7, go_sem, *]) rfl ⟨by rw [HC.out], rfl⟩
end Go.Proofs.YtehpjidajmoggaaGreatDoor.Jdec
namespace Go.Proofs.YtehpjidajmoggaaGreatDoor.Jdec
open Go.RowKit Kit Txt
open Tre (Val HoldF HoldV zeroV none' deep Own Right)

theorem right_told {v : Val} {w : World} {u : Value} (hm : Small v) (hr : Right v) (h : HoldV w u v) : Calls Tryz.prog 11 #[u] w fun e w' => e = .returned (.bool true) ∧ Below w.heap.size w w' :=
  (Tre.rright_of (F := Small) (fun _ h => h.out.2.2.2) (fun _ _ _ hm h => Tre.rown_any hm.out.1 hm.out.2.1 hm.out.2.2.1 h) hm (by have := hr.1; omega) h).mono fun _ _ ⟨⟨r, he, hi⟩, k⟩ => ⟨by rw [he, hi.2 hr], k⟩

set_option maxRecDepth 100000 in
set_option maxHeartbeats 8000000 in
theorem rights_law {w : World} (ho : Ok w) (s : List UInt8) : Calls Tryz.prog 3 #[.string (txt s)] w fun e w' => e = .returned (.bool true) ∧ Below w.heap.size w w' := by
  have hw := Lib.hid (wakes_any ho)
  have hz := txt_size s
  by_cases g1 : 1500 < s.length
  · have d1 : decide (1500 < s.length) = true := decide_eq_true g1
    have d2 : decide ((1500 : Int) < (s.length : Int)) = true := decide_eq_true (by omega)
    have d3 : (1500 : Int) < (s.length : Int) := by omega
    go_enter Tryz.func3, Tryz.ntmps3
    go_wp2_with fail
    refine hw.out.mono ?_
    rintro e w1 ⟨rfl, k1⟩
    go_wp2_with fail
    go_ret
    exact ⟨rfl, k1⟩
  have d1 : decide (1500 < s.length) = false := decide_eq_false g1
  have d2 : decide ((1500 : Int) < (s.length : Int)) = false := decide_eq_false (by omega)
  have d3 : ¬ (1500 : Int) < (s.length : Int) := by omega
  have HP := Lib.hid (fun (wx : World) (h : Ok wx) => jparse_all (w := wx) (s := s) (by omega) h)
  have HD := Lib.hid (fun (wx : World) => deepest_any (w := wx) (l := s) (by omega))
  have HR := Lib.hid (fun (wx : World) => rdeepest_any (w := wx) (l := s) (by omega))
  have HSZ := Lib.hid (fun (wx : World) => same_true (zero_hold wx) (zero_hold wx) rfl)
  unfold zeroV at HSZ
  have hgood := parse_good s
  cases hp : parse s with
  | no r k =>
    rw [hp] at hgood
    have hk0 : k ≠ 0 := hgood.2
    have q1 : (((k : Nat) : Int) != 0) = true := by simpa using hk0
    have HPP := Lib.hid hp
    clear hgood hp hk0
    generalize deepest s = n at *
    have hnn : (((n : Nat) : Int) != (n : Int)) = false := by simp
    go_enter Tryz.func3, Tryz.ntmps3
    go_wp2_with fail
    refine hw.out.mono ?_
    rintro e w1 ⟨rfl, k1⟩
    go_wp2_with fail
    refine (HP.out w1 (ho.below k1)).mono ?_
    rintro e w2 hT
    obtain ⟨rfl, k2⟩ := told_no HPP.out hT
    have b2 := k1.trans (k2.mono k1.size)
    have b3 := b2.alloc b2.size (.cells #[.int .i64 0, .bool false, .bool false, .string ⟨#[]⟩, .int .i64 0, .string ⟨#[]⟩, .slice none 0 0, .slice none 0 0] 28)
    have hA := World.alloc_heap_new w2 (.cells #[.int .i64 0, .bool false, .bool false, .string ⟨#[]⟩, .int .i64 0, .string ⟨#[]⟩, .slice none 0 0, .slice none 0 0] 28)
    obtain ⟨a0, a1, a2, a3, a4, a5, a6, a7⟩ := eight hA
    have HB3 := Lib.hid b3
    unfold zeroV
    clear hT k1 k2 b2 b3 hA
    go_wp2_with fail
    refine (HD.out _).mono ?_
    rintro e w4 ⟨rfl, rfl⟩
    go_wp2_with fail
    refine (HR.out _).mono ?_
    rintro e w5 ⟨rfl, rfl⟩
    go_wp2_with fail
    refine (HSZ.out _).mono ?_
    rintro e w6 ⟨rfl, k6⟩
    have b6 := HB3.out.trans (k6.mono HB3.out.size)
    have HB6 := Lib.hid b6
    clear k6 b6 a0 a1 a2 a3 a4 a5 a6 a7
    go_wp2_with fail
    go_ret
    exact ⟨rfl, HB6.out⟩
  | ok v r =>
    rw [hp] at hgood
    have hr : Right v := hgood.2.2
    have hdd := parse_deep hp
    have hm := parse_small (by omega) hp
    have hd64 : deep v ≤ 64 := hr.1
    have HDD := Lib.hid (fun (wx : World) (u : Value) (h : HoldV wx u v) => Tre.rdeep_any v wx u (by omega) h)
    have HRR := Lib.hid (fun (wx : World) (u : Value) (h : HoldV wx u v) => right_told hm hr h)
    have HPP := Lib.hid hp
    clear hgood hp hr hm
    generalize deep v = d at *
    generalize deepest s = n at *
    have hnn : (((n : Nat) : Int) != (n : Int)) = false := by simp
    have hwn : IntKind.i64.wrap ((n : Int) + 1) = (n : Int) + 1 := by simp only [IntKind.wrap, IntKind.signed, IntKind.bits]; simp; omega
    have hor : ((d : Int) == (n : Int) || (d : Int) == (n : Int) + 1) = true := by
      rcases hdd with h | h
      · simp [h]
      · simp [h]
    have HOR := Lib.hid hor
    clear hdd hor
    go_enter Tryz.func3, Tryz.ntmps3
    go_wp2_with fail
    refine hw.out.mono ?_
    rintro e w1 ⟨rfl, k1⟩
    go_wp2_with fail
    refine (HP.out w1 (ho.below k1)).mono ?_
    rintro e w2 hT
    obtain ⟨⟨pk1, ak1, ck1, cc1, rfl, hv1⟩, k2⟩ := told_ok HPP.out hT
    generalize v.keys.length = lk at *
    generalize v.kids.length = lv at *
    have b2 := k1.trans (k2.mono k1.size)
    have b3 := b2.alloc b2.size (.cells #[.int .i64 v.kind, .bool v.is, .bool v.num.neg, .string (txt v.num.dig), .int .i64 v.num.exp, .string (txt v.str), .slice pk1 lk ck1, .slice ak1 lv cc1] 28)
    have hA := World.alloc_heap_new w2 (.cells #[.int .i64 v.kind, .bool v.is, .bool v.num.neg, .string (txt v.num.dig), .int .i64 v.num.exp, .string (txt v.str), .slice pk1 lk ck1, .slice ak1 lv cc1] 28)
    have hv1' := hv1.below ((Below.refl _ w2).alloc (Nat.le_refl _) (.cells #[.int .i64 v.kind, .bool v.is, .bool v.num.neg, .string (txt v.num.dig), .int .i64 v.num.exp, .string (txt v.str), .slice pk1 lk ck1, .slice ak1 lv cc1] 28))
    have HB3 := Lib.hid b3
    have HA3 := Lib.hid hA
    have HV3 := Lib.hid hv1'
    obtain ⟨a0, a1, a2, a3, a4, a5, a6, a7⟩ := eight hA
    clear hT k1 k2 b2 b3 hA hv1 hv1'
    go_wp2_with fail
    refine (HD.out _).mono ?_
    rintro e w4 ⟨rfl, rfl⟩
    go_wp2_with fail
    refine (HR.out _).mono ?_
    rintro e w5 ⟨rfl, rfl⟩
    go_wp2_with fail
    refine (HDD.out _ _ HV3.out).mono ?_
    rintro e w6 ⟨rfl, k6⟩
    have b6 := HB3.out.trans (k6.mono HB3.out.size)
    have hA6 := (k6.block _ (by simp)).trans HA3.out
    have HV6 := Lib.hid (HV3.out.below k6)
    have HB6 := Lib.hid b6
    clear k6 b6 a0 a1 a2 a3 a4 a5 a6 a7
    obtain ⟨a0, a1, a2, a3, a4, a5, a6, a7⟩ := eight hA6
    clear hA6
    go_wp2_with fail
    refine (HRR.out _ _ HV6.out).mono ?_
    rintro e w7 ⟨rfl, k7⟩
    have HB7 := Lib.hid (HB6.out.trans (k7.mono HB6.out.size))
    clear k7 a0 a1 a2 a3 a4 a5 a6 a7
    by_cases hc : d = n
    · have c1 : ((d : Int) == (n : Int)) = true := by simp [hc]
      go_wp2_with fail
      go_ret
      exact ⟨rfl, HB7.out⟩
    · have c1 : ((d : Int) == (n : Int)) = false := by simp; omega
      have c2 : ((d : Int) == (n : Int) + 1) = true := by have := HOR.out; rwa [c1, Bool.false_or] at this
      go_wp2_with fail
      go_ret
      exact ⟨rfl, HB7.out⟩
theorem rights_text {w : World} {s : ByteArray} (ho : Ok w) : Calls Tryz.prog 3 #[.string s] w fun e w' => e = .returned (.bool true) ∧ Below w.heap.size w w' := by
  have := rights_law ho s.data.toList
  rwa [← txt_data] at this
end Go.Proofs.YtehpjidajmoggaaGreatDoor.Jdec
