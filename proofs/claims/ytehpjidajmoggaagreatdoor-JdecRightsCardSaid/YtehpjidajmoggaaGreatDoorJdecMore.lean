/- The decoder of JSON without a program: what bytes tell, from a place on: a value and what is left, or what is left where it can't go on and the error; what is told is right; more bytes behind it change nothing. More bytes behind a text of JSON: what is told stays; blanks ahead and behind; a text that is cut short is no value's. Nothing is claimed here. -/
import Derived.Test.YtehpjidajmoggaaGreatDoorTreeSpec
import Derived.Test.YtehpjidajmoggaaGreatDoorQuoSpec
namespace Go.Proofs.YtehpjidajmoggaaGreatDoor.Jdec
open Tre (Val none' Whole Wholes deep deeps)

inductive Got (α : Type) where
  | ok (x : α) (r : List UInt8)
  | no (r : List UInt8) (e : Nat)

def blank (c : UInt8) : Bool := decide (c = 9 ∨ c = 10 ∨ c = 13 ∨ c = 32)
def skip (l : List UInt8) : List UInt8 := l.dropWhile blank
def here {α : Type} (l : List UInt8) : Got α := if l = [] then .no l 2 else .no l 3
def word (v : Val) : List UInt8 → List UInt8 → Got Val
  | [], l => .ok v l
  | _ :: _, [] => .no [] 2
  | c :: w, d :: l => if d = c then word v w l else .no (d :: l) 3
def number (l : List UInt8) : Got Val :=
  if Num.scan l = 0 then (if l.length = 1 then .no l 2 else .no l 3)
  else if (Num.parse (l.take (Num.scan l))).2 ≠ 0 then .no l (Num.parse (l.take (Num.scan l))).2
  else .ok ⟨3, false, (Num.parse (l.take (Num.scan l))).1, [], [], []⟩ (l.drop (Num.scan l))
def text (l : List UInt8) : Got Val :=
  if (Quo.scan l).e ≠ 0 then .no l (Quo.scan l).e else .ok ⟨4, false, Num.zero, (Quo.scan l).s, [], []⟩ (l.drop (Quo.scan l).size)
/-- A key, its colon, blanks. -/
def field (keys : List (List UInt8)) (l : List UInt8) : Got (List UInt8) :=
  if l.head? ≠ some 34 then here l
  else if (Quo.scan l).e ≠ 0 then .no l (Quo.scan l).e
  else if (Quo.scan l).s ∈ keys then .no l 6
  else if (skip (l.drop (Quo.scan l).size)).head? ≠ some 58 then here (skip (l.drop (Quo.scan l).size))
  else .ok (Quo.scan l).s (skip (skip (l.drop (Quo.scan l).size)).tail)
def close (obj : Bool) : UInt8 := if obj then 125 else 93
def made (obj : Bool) (keys : List (List UInt8)) (kids : List Val) : Val := ⟨if obj then 6 else 5, false, Num.zero, [], keys, kids⟩
/-- A key, or none of a list, and what stands behind it. -/
def named (obj : Bool) (keys : List (List UInt8)) (l : List UInt8) : Got (List (List UInt8)) :=
  if obj then (match field keys l with | .ok k r => .ok (keys ++ [k]) r | .no r e => .no r e) else .ok keys l
/-- From an item on. -/
def items (val : List UInt8 → Got Val) (obj : Bool) (keys : List (List UInt8)) (kids : List Val) (l : List UInt8) : Got Val :=
  match named obj keys l with
  | .no r e => .no r e
  | .ok ks l1 => match val l1 with
    | .no r e => .no r e
    | .ok x r =>
      if (skip r).head? = some (close obj) then .ok (made obj ks (kids ++ [x])) (skip r).tail
      else if (skip r).head? ≠ some 44 then here (skip r)
      else if _h : (skip (skip r).tail).length < l.length then items val obj ks (kids ++ [x]) (skip (skip r).tail) else .no l 0
termination_by l.length
def many (val : List UInt8 → Got Val) (l : List UInt8) : Got Val :=
  if (skip l.tail).head? = some (close (decide (l.head? = some 123))) then .ok (made (decide (l.head? = some 123)) [] []) (skip l.tail).tail
  else items val (decide (l.head? = some 123)) [] [] (skip l.tail)
def digit (c : UInt8) : Bool := decide (48 ≤ c.toNat ∧ c.toNat ≤ 57) || decide (c = 45)
def begins (c : UInt8) : Bool := decide (c = 110 ∨ c = 116 ∨ c = 102 ∨ c = 34 ∨ c = 91 ∨ c = 123) || digit c
/-- A value that may be so many more deep. -/
def read (val : List UInt8 → Got Val) (l : List UInt8) : Got Val :=
  match l.head? with
  | none => .no l 2
  | some c =>
    if digit c then number l
    else if c = 110 then word ⟨1, false, Num.zero, [], [], []⟩ [110, 117, 108, 108] l
    else if c = 116 then word ⟨2, true, Num.zero, [], [], []⟩ [116, 114, 117, 101] l
    else if c = 102 then word ⟨2, false, Num.zero, [], [], []⟩ [102, 97, 108, 115, 101] l
    else if c = 34 then text l
    else many val l
def value : Nat → List UInt8 → Got Val
  | 0, l => match l.head? with
    | none => .no l 2
    | some c => if begins c then .no l 5 else .no l 3
  | k + 1, l => match l.head? with
    | none => .no l 2
    | some c => if begins c then read (value k) l else .no l 3
def parse (l : List UInt8) : Got Val :=
  match value 64 (skip l) with
  | .no r e => .no r e
  | .ok v r => if skip r = [] then .ok v [] else .no (skip r) 14

theorem skip_suf (l : List UInt8) : skip l <:+ l := List.dropWhile_suffix _
theorem skip_le (l : List UInt8) : (skip l).length ≤ l.length := (skip_suf l).length_le
theorem tail_suf (l : List UInt8) : l.tail <:+ l := List.tail_suffix l

/-- A got's word on what it is of: it ends within the bytes, and tells what holds. -/
def Good {α : Type} (A : α → List UInt8 → Prop) (l : List UInt8) : Got α → Prop
  | .ok x r => r <:+ l ∧ A x r
  | .no r e => r <:+ l ∧ e ≠ 0
theorem here_good {α : Type} {A : α → List UInt8 → Prop} {l : List UInt8} : Good A l (here l) := by
  unfold here
  split
  · exact ⟨List.suffix_refl _, by decide⟩
  · exact ⟨List.suffix_refl _, by decide⟩
theorem here_suf {α : Type} {A : α → List UInt8 → Prop} {l m : List UInt8} (hs : l <:+ m) : Good A m (here l) := by
  unfold here
  split
  · exact ⟨hs, by decide⟩
  · exact ⟨hs, by decide⟩
theorem Good.of_suf {α : Type} {A B : α → List UInt8 → Prop} {l m : List UInt8} {g : Got α} (h : Good A l g) (hs : l <:+ m) (hb : ∀ x r, r <:+ l → A x r → B x r) : Good B m g := by
  cases g with
  | ok x r => exact ⟨h.1.trans hs, hb _ _ h.1 h.2⟩
  | no r e => exact ⟨h.1.trans hs, h.2⟩
theorem bad_nil : Utf.bad [] = none := by simp [Utf.bad, Utf.scan_nil]
theorem scan_ok {l : List UInt8} (h : (Quo.scan l).e = 0) : Utf.bad (Quo.scan l).s = none ∧ 0 < (Quo.scan l).size ∧ (Quo.scan l).size ≤ l.length := by
  cases l with
  | nil => cases h
  | cons c r =>
    unfold Quo.scan at h ⊢
    dsimp only at h ⊢
    split at h
    · cases h
    · rename_i hc
      rw [if_neg hc]
      have := Quo.scanF_ok r.length r rfl [] 1 bad_nil h
      exact ⟨this.1, by omega, by simp; omega⟩
theorem num_le (l : List UInt8) : Num.scan l ≤ l.length := by
  unfold Num.scan
  split
  · rename_i h
    have h0 := Num.digAt_lt h
    have h1 : Num.intEnd l (Num.neg0 l) ≤ l.length := by
      unfold Num.intEnd
      split
      · omega
      · exact Num.run_le (by omega)
    have h2 : Num.fracEnd l (Num.intEnd l (Num.neg0 l)) ≤ l.length := by
      unfold Num.fracEnd
      split
      · rename_i hh
        exact Num.run_le (Nat.le_of_lt (Num.digAt_lt hh.2))
      · exact h1
    unfold Num.expEnd
    split
    · rename_i hh
      exact Num.run_le (Nat.le_of_lt (Num.digAt_lt hh.2))
    · exact h2
  · exact Nat.zero_le _
theorem num_right (l : List UInt8) : Num.Right (Num.parse l).1 := by
  have hz : Num.Right Num.zero := by decide
  unfold Num.parse
  split
  · exact hz
  · unfold Num.norm
    split
    · exact hz
    · split
      · assumption
      · exact hz
theorem plain_whole {v : Val} (hk : v.kids = []) (h : Tre.Own v) : Whole v := Tre.whole_iff.2 ⟨h, by rw [hk]; simp⟩
theorem own_flat (k : Int) (i : Bool) (n : Num.Dec) (s : List UInt8) (h1 : 1 ≤ k) (h2 : k ≤ 4) (hi : k ≠ 2 → i = false) (hn : k ≠ 3 → n = Num.zero) (hs : k ≠ 4 → s = []) (hr : Num.Right n) (hb : Utf.bad s = none) : Whole ⟨k, i, n, s, [], []⟩ :=
  plain_whole rfl ⟨h1, by show k ≤ 6; omega, hi, hn, hs, fun _ => rfl, fun _ => rfl, hr, hb, fun _ => rfl, by simp [Val.keys], by simp [Val.keys]⟩
theorem zero_right : Num.Right Num.zero := by decide

/-- What a value of so many more may be. -/
def Nice (k : Nat) (l : List UInt8) (v : Val) (r : List UInt8) : Prop := r.length < l.length ∧ Whole v ∧ deep v ≤ k
theorem word_good {v : Val} {k : Nat} (hv : Whole v) (hd : deep v ≤ k) : ∀ (w l : List UInt8), w ≠ [] → Good (Nice k l) l (word v w l)
  | [], _, h => absurd rfl h
  | c :: w, [], _ => ⟨List.suffix_refl _, by decide⟩
  | c :: w, d :: l, _ => by
    unfold word
    split
    · cases w with
      | nil =>
        unfold word
        exact ⟨List.suffix_cons _ _, by simp, hv, hd⟩
      | cons c2 w =>
        exact (word_good hv hd (c2 :: w) l (by simp)).of_suf (List.suffix_cons _ _) fun x r _ h => ⟨by have := h.1; simp; omega, h.2⟩
    · exact ⟨List.suffix_refl _, by decide⟩
theorem number_good (k : Nat) (l : List UInt8) : Good (Nice (k + 1) l) l (number l) := by
  unfold number
  split
  · split
    · exact ⟨List.suffix_refl _, by decide⟩
    · exact ⟨List.suffix_refl _, by decide⟩
  · rename_i h0
    split
    · rename_i h1
      exact ⟨List.suffix_refl _, h1⟩
    · have := num_le l
      exact ⟨List.drop_suffix _ _, by rw [List.length_drop]; omega, own_flat 3 false _ [] (by decide) (by decide) (fun _ => rfl) (fun h => absurd rfl h) (fun _ => rfl) (num_right _) bad_nil, by simp [deep]⟩
theorem text_good (k : Nat) (l : List UInt8) : Good (Nice (k + 1) l) l (text l) := by
  unfold text
  split
  · rename_i h1
    exact ⟨List.suffix_refl _, h1⟩
  · rename_i h1
    obtain ⟨h2, h3, h4⟩ := scan_ok (l := l) (by omega)
    exact ⟨List.drop_suffix _ _, by rw [List.length_drop]; omega, own_flat 4 false Num.zero _ (by decide) (by decide) (fun _ => rfl) (fun _ => rfl) (fun h => absurd rfl h) zero_right h2, by simp [deep]⟩
theorem field_good (keys : List (List UInt8)) (l : List UInt8) : Good (fun k r => r.length < l.length ∧ k ∉ keys ∧ Utf.bad k = none) l (field keys l) := by
  unfold field
  split
  · exact here_good
  · split
    · rename_i h1
      exact ⟨List.suffix_refl _, h1⟩
    · rename_i h1
      obtain ⟨h2, h3, h4⟩ := scan_ok (l := l) (by omega)
      split
      · exact ⟨List.suffix_refl _, by decide⟩
      · rename_i h5
        have s1 : skip (l.drop (Quo.scan l).size) <:+ l := (skip_suf _).trans (List.drop_suffix _ _)
        split
        · exact here_suf s1
        · have := ((skip_suf (skip (l.drop (Quo.scan l).size)).tail).trans (tail_suf _)).length_le
          have := skip_le (l.drop (Quo.scan l).size)
          rw [List.length_drop] at this
          exact ⟨((skip_suf _).trans (tail_suf _)).trans s1, by omega, h5, h2⟩
theorem Good.and {α : Type} {A : α → List UInt8 → Prop} {l : List UInt8} {g : Got α} (h : Good A l g) : ∀ x r, g = .ok x r → r <:+ l ∧ A x r := fun x r e => by subst e; exact h
theorem named_good (obj : Bool) (keys : List (List UInt8)) (l : List UInt8) : Good (fun ks r => r.length ≤ l.length ∧ (if obj then ∃ k, ks = keys ++ [k] ∧ k ∉ keys ∧ Utf.bad k = none else ks = keys)) l (named obj keys l) := by
  unfold named
  cases obj with
  | false => exact ⟨List.suffix_refl _, Nat.le_refl _, rfl⟩
  | true =>
    have h := field_good keys l
    cases hf : field keys l with
    | ok k r =>
      rw [hf] at h
      exact ⟨h.1, Nat.le_of_lt h.2.1, by simpa using ⟨h.2.2.1, h.2.2.2⟩⟩
    | no r e =>
      rw [hf] at h
      exact h
/-- What is between the brackets so far. -/
structure Sofar (k : Nat) (obj : Bool) (keys : List (List UInt8)) (kids : List Val) : Prop where
  len : obj = true → keys.length = kids.length
  none : obj = false → keys = []
  bad : ∀ x ∈ keys, Utf.bad x = Option.none
  nodup : keys.Nodup
  kids : ∀ v ∈ kids, Whole v ∧ deep v ≤ k
theorem made_nice {k : Nat} {obj : Bool} {keys : List (List UInt8)} {kids : List Val} (h : Sofar k obj keys kids) : Whole (made obj keys kids) ∧ deep (made obj keys kids) ≤ k + 1 := by
  have hw : ∀ v ∈ kids, Whole v := fun v hv => (h.kids v hv).1
  have hd : deeps kids ≤ k := Tre.deeps_le.2 fun v hv => (h.kids v hv).2
  cases obj with
  | true =>
    refine ⟨Tre.whole_iff.2 ⟨⟨by simp [made, Val.kind], by simp [made, Val.kind], fun _ => rfl, fun _ => rfl, fun _ => rfl, fun e => absurd e (by simp [made, Val.kind]), fun e => absurd rfl e, zero_right, bad_nil, fun _ => h.len rfl, h.bad, h.nodup⟩, hw⟩, ?_⟩
    simp [made, deep]
    exact hd
  | false =>
    have := h.none rfl
    subst this
    refine ⟨Tre.whole_iff.2 ⟨⟨by simp [made, Val.kind], by simp [made, Val.kind], fun _ => rfl, fun _ => rfl, fun _ => rfl, fun e => absurd e (by simp [made, Val.kind]), fun _ => rfl, zero_right, bad_nil, fun e => absurd e (by simp [made, Val.kind]), by simp [made, Val.keys], by simp [made, Val.keys]⟩, hw⟩, ?_⟩
    simp [made, deep]
    exact hd
theorem items_good {k : Nat} {val : List UInt8 → Got Val} (hval : ∀ l, Good (Nice k l) l (val l)) : ∀ (n : Nat) (l : List UInt8), l.length = n → ∀ (obj : Bool) (keys : List (List UInt8)) (kids : List Val), Sofar k obj keys kids → Good (fun v r => r.length < l.length ∧ Whole v ∧ deep v ≤ k + 1) l (items val obj keys kids l) := by
  intro n
  induction n using Nat.strongRecOn with
  | ind n ih =>
    intro l hl obj keys kids hs
    have hn := named_good obj keys l
    unfold items
    cases hf : named obj keys l with
    | no r e =>
      rw [hf] at hn
      exact hn
    | ok ks l1 =>
      rw [hf] at hn
      obtain ⟨n1, n2, n3⟩ := hn
      have hv := hval l1
      dsimp only
      cases hg : val l1 with
      | no r e =>
        rw [hg] at hv
        exact ⟨hv.1.trans n1, hv.2⟩
      | ok x r =>
        rw [hg] at hv
        obtain ⟨v1, v2, v3, v4⟩ := hv
        dsimp only
        have s1 : skip r <:+ l := ((skip_suf r).trans v1).trans n1
        have z1 := skip_le r
        have hs' : Sofar k obj ks (kids ++ [x]) := by
          have hk : ∀ v ∈ kids ++ [x], Whole v ∧ deep v ≤ k := by
            intro v hv
            rcases List.mem_append.1 hv with hv | hv
            · exact hs.kids v hv
            · rw [List.mem_singleton.1 hv]
              exact ⟨v3, v4⟩
          cases obj with
          | false =>
            have e : ks = keys := n3
            subst e
            exact ⟨fun e => absurd e (by decide), hs.none, hs.bad, hs.nodup, hk⟩
          | true =>
            obtain ⟨c, rfl, c1, c2⟩ : ∃ c, ks = keys ++ [c] ∧ c ∉ keys ∧ Utf.bad c = Option.none := n3
            refine ⟨fun _ => by simp [hs.len rfl], fun e => absurd e (by decide), ?_, ?_, hk⟩
            · intro y hy
              rcases List.mem_append.1 hy with hy | hy
              · exact hs.bad y hy
              · rw [List.mem_singleton.1 hy]
                exact c2
            · rw [List.nodup_append]
              refine ⟨hs.nodup, by simp, ?_⟩
              intro a ha b hb e
              subst e
              rw [List.mem_singleton.1 hb] at ha
              exact c1 ha
        split
        · rename_i hc
          have : 0 < (skip r).length := by
            cases h9 : skip r with
            | nil => rw [h9] at hc; cases hc
            | cons _ _ => simp
          exact ⟨(tail_suf _).trans s1, by rw [List.length_tail]; omega, made_nice hs'⟩
        · split
          · exact here_suf s1
          · rename_i hc
            have hc : (skip r).head? = some 44 := by simpa using hc
            have h0 : 0 < (skip r).length := by
              cases h9 : skip r with
              | nil => rw [h9] at hc; cases hc
              | cons _ _ => simp
            have z2 := skip_le (skip r).tail
            rw [List.length_tail] at z2
            have s2 : skip (skip r).tail <:+ l := ((skip_suf _).trans (tail_suf _)).trans s1
            rw [dif_pos (by omega)]
            exact (ih _ (by omega) _ rfl obj ks _ hs').of_suf s2 fun v r _ h => ⟨by have := h.1; omega, h.2⟩
theorem sofar_nil (k : Nat) (obj : Bool) : Sofar k obj [] [] := ⟨fun _ => rfl, fun _ => rfl, by simp, by simp, by simp⟩
theorem many_good {k : Nat} {val : List UInt8 → Got Val} (hval : ∀ l, Good (Nice k l) l (val l)) {l : List UInt8} (hl : l ≠ []) : Good (Nice (k + 1) l) l (many val l) := by
  have h0 : 0 < l.length := List.length_pos_iff.2 hl
  have z := skip_le l.tail
  rw [List.length_tail] at z
  have s : skip l.tail <:+ l := (skip_suf _).trans (tail_suf _)
  unfold many
  split
  · exact ⟨(tail_suf _).trans s, by rw [List.length_tail]; omega, made_nice (sofar_nil k _)⟩
  · exact (items_good hval _ _ rfl _ [] [] (sofar_nil k _)).of_suf s fun v r _ h => ⟨by have := h.1; omega, h.2⟩
theorem value_good : ∀ (k : Nat) (l : List UInt8), Good (Nice k l) l (value k l)
  | 0, l => by
    unfold value
    cases l with
    | nil => exact ⟨List.suffix_refl _, by decide⟩
    | cons c r =>
      show Good _ _ (if begins c then .no (c :: r) 5 else .no (c :: r) 3)
      split
      · exact ⟨List.suffix_refl _, by decide⟩
      · exact ⟨List.suffix_refl _, by decide⟩
  | k + 1, l => by
    unfold value
    cases l with
    | nil => exact ⟨List.suffix_refl _, by decide⟩
    | cons c r =>
      show Good _ _ (if begins c then read (value k) (c :: r) else .no (c :: r) 3)
      split
      · unfold read
        show Good _ _ (if digit c then _ else _)
        split
        · exact number_good k _
        · split
          · exact word_good (own_flat 1 false Num.zero [] (by decide) (by decide) (fun _ => rfl) (fun _ => rfl) (fun _ => rfl) zero_right bad_nil) (by simp [deep]) _ _ (by simp)
          · split
            · exact word_good (own_flat 2 true Num.zero [] (by decide) (by decide) (fun h => absurd rfl h) (fun _ => rfl) (fun _ => rfl) zero_right bad_nil) (by simp [deep]) _ _ (by simp)
            · split
              · exact word_good (own_flat 2 false Num.zero [] (by decide) (by decide) (fun _ => rfl) (fun _ => rfl) (fun _ => rfl) zero_right bad_nil) (by simp [deep]) _ _ (by simp)
              · split
                · exact text_good k _
                · exact many_good (value_good k) (by simp)
      · exact ⟨List.suffix_refl _, by decide⟩
/-- What is told of any bytes is right; an error's place lies within them. -/
theorem parse_good (l : List UInt8) : Good (fun v r => r = [] ∧ Tre.Right v) l (parse l) := by
  have h := value_good 64 (skip l)
  unfold parse
  cases hv : value 64 (skip l) with
  | no r e =>
    rw [hv] at h
    exact ⟨h.1.trans (skip_suf l), h.2⟩
  | ok v r =>
    rw [hv] at h
    obtain ⟨h1, h2, h3, h4⟩ := h
    dsimp only
    split
    · exact ⟨List.nil_suffix, rfl, h4, h3⟩
    · exact ⟨((skip_suf r).trans h1).trans (skip_suf l), by decide⟩
end Go.Proofs.YtehpjidajmoggaaGreatDoor.Jdec
namespace Go.Proofs.YtehpjidajmoggaaGreatDoor.Jdec
open Tre (Val none' Whole Wholes deep deeps)
open Num (nb dg DigAt run)

theorem nb_left {l : List UInt8} (t : List UInt8) {i : Nat} (h : i < l.length) : nb (l ++ t) i = nb l i := by
  unfold Num.nb
  rw [List.getD_eq_getElem?_getD, List.getD_eq_getElem?_getD, List.getElem?_append_left h]
theorem dig_left {l : List UInt8} (t : List UInt8) {i : Nat} (h : i < l.length) : DigAt (l ++ t) i ↔ DigAt l i := by
  unfold Num.DigAt
  rw [nb_left t h]
theorem run_end : ∀ (n : Nat) (l : List UInt8) (i : Nat), l.length - i = n → ¬ DigAt l (run l i) ∧ (∀ j, i ≤ j → j < run l i → DigAt l j) := by
  intro n
  induction n using Nat.strongRecOn with
  | ind n ih =>
    intro l i hn
    by_cases h : DigAt l i
    · have h0 := Num.digAt_lt h
      rw [Num.run_on h]
      obtain ⟨h1, h2⟩ := ih (l.length - (i + 1)) (by omega) l (i + 1) rfl
      refine ⟨h1, fun j hj hr => ?_⟩
      by_cases e : j = i
      · subst e; exact h
      · exact h2 j (by omega) hr
    · rw [Num.run_stop h]
      exact ⟨h, fun j h1 h2 => by omega⟩
theorem run_left {t : List UInt8} : ∀ (n : Nat) (l : List UInt8) (i : Nat), l.length - i = n → ¬ DigAt (l ++ t) (run l i) → run (l ++ t) i = run l i := by
  intro n
  induction n using Nat.strongRecOn with
  | ind n ih =>
    intro l i hn h
    by_cases hd : DigAt l i
    · have h0 := Num.digAt_lt hd
      rw [Num.run_on hd] at h ⊢
      rw [Num.run_on ((dig_left t h0).2 hd)]
      exact ih (l.length - (i + 1)) (by omega) l (i + 1) rfl h
    · rw [Num.run_stop hd] at h ⊢
      exact Num.run_stop h
/-- No number goes on at a place. -/
def StopAt (l : List UInt8) (i : Nat) : Prop := ¬ DigAt l i ∧ nb l i ≠ 46 ∧ nb l i ≠ 101 ∧ nb l i ≠ 69
theorem scan_left {l t : List UInt8} (h0 : Num.scan l ≠ 0) (hs : StopAt (l ++ t) (Num.scan l)) : Num.scan (l ++ t) = Num.scan l := by
  obtain ⟨s1, s2, s3, s4⟩ := hs
  have hd : DigAt l (Num.neg0 l) := by
    apply Decidable.byContradiction
    intro h
    exact h0 (by unfold Num.scan; rw [if_neg h])
  have l0 := Num.digAt_lt hd
  have en : Num.neg0 (l ++ t) = Num.neg0 l := by
    unfold Num.neg0
    rw [nb_left t (by omega)]
  obtain ⟨a, ha⟩ : ∃ a, Num.intEnd l (Num.neg0 l) = a := ⟨_, rfl⟩
  obtain ⟨f, hf⟩ : ∃ f, Num.fracEnd l a = f := ⟨_, rfl⟩
  obtain ⟨n, hn⟩ : ∃ n, Num.expEnd l f = n := ⟨_, rfl⟩
  have e1 : Num.scan l = n := by unfold Num.scan; rw [if_pos hd, ha, hf, hn]
  rw [e1] at s1 s2 s3 s4 ⊢
  have la : a ≤ l.length := by
    rw [← ha]; unfold Num.intEnd
    split
    · omega
    · exact Num.run_le (by omega)
  have past : ∀ i, l.length ≤ i → nb l i = 0 := fun i hi => Num.nb_past hi
  have lf : a ≤ f ∧ f ≤ l.length := by
    rw [← hf]; unfold Num.fracEnd
    split
    · rename_i hh
      have := Num.run_ge l (a + 1)
      exact ⟨by omega, Num.run_le (Nat.le_of_lt (Num.digAt_lt hh.2))⟩
    · exact ⟨Nat.le_refl _, la⟩
  have ln : f ≤ n ∧ n ≤ l.length := by
    rw [← hn]; unfold Num.expEnd
    split
    · rename_i hh
      have := Num.run_ge l (Num.signEnd l (f + 1))
      have : f + 1 ≤ Num.signEnd l (f + 1) := by unfold Num.signEnd; split <;> omega
      exact ⟨by omega, Num.run_le (Nat.le_of_lt (Num.digAt_lt hh.2))⟩
    · exact ⟨Nat.le_refl _, lf.2⟩
  have ea : a = l.length → n = a := fun e => by
    have e2 : f = a := by
      rw [← hf]; unfold Num.fracEnd
      rw [if_neg (fun hh => by have := past a (by omega); omega)]
    have e3 : n = f := by
      rw [← hn]; unfold Num.expEnd
      rw [if_neg (fun hh => by have := past f (by omega); omega)]
    omega
  have ef : f = l.length → n = f := fun e => by
    rw [← hn]; unfold Num.expEnd
    rw [if_neg (fun hh => by have := past f (by omega); omega)]
  have i1 : Num.intEnd (l ++ t) (Num.neg0 l) = a := by
    unfold Num.intEnd at ha ⊢
    rw [nb_left t l0]
    split
    · rename_i hz
      rw [if_pos hz] at ha
      exact ha
    · rename_i hz
      rw [if_neg hz] at ha
      rw [run_left _ l _ rfl, ha]
      rw [ha]
      by_cases e : a = l.length
      · rw [← ea e]; exact s1
      · rw [dig_left t (by omega), ← ha]
        exact (run_end _ l _ rfl).1
  have i2 : Num.fracEnd (l ++ t) a = f := by
    unfold Num.fracEnd at hf ⊢
    by_cases c : nb l a = 46 ∧ DigAt l (a + 1)
    · have l1 := Num.digAt_lt c.2
      rw [if_pos c] at hf
      rw [if_pos ⟨by rw [nb_left t (by omega)]; exact c.1, (dig_left t l1).2 c.2⟩]
      rw [run_left _ l _ rfl, hf]
      rw [hf]
      by_cases e : f = l.length
      · rw [← ef e]; exact s1
      · rw [dig_left t (by omega), ← hf]
        exact (run_end _ l _ rfl).1
    · rw [if_neg c] at hf
      subst hf
      rw [if_neg]
      rintro ⟨c1, -⟩
      by_cases e : a = l.length
      · rw [← ea e] at c1
        exact s2 c1
      · have c3 := c1
        rw [nb_left t (by omega)] at c1
        have : n = a := by
          rw [← hn]; unfold Num.expEnd
          rw [if_neg (fun hh => by omega)]
        rw [this] at s2
        exact s2 c3
  have i3 : Num.expEnd (l ++ t) f = n := by
    unfold Num.expEnd at hn ⊢
    by_cases c : (nb l f = 101 ∨ nb l f = 69) ∧ DigAt l (Num.signEnd l (f + 1))
    · have l1 := Num.digAt_lt c.2
      have g : f + 1 ≤ Num.signEnd l (f + 1) := by unfold Num.signEnd; split <;> omega
      have e2 : Num.signEnd (l ++ t) (f + 1) = Num.signEnd l (f + 1) := by
        unfold Num.signEnd
        rw [nb_left t (by omega)]
      rw [if_pos c] at hn
      rw [e2, if_pos ⟨by rw [nb_left t (by omega)]; exact c.1, (dig_left t l1).2 c.2⟩]
      rw [run_left _ l _ rfl, hn]
      rw [hn]
      exact s1
    · rw [if_neg c] at hn
      subst hn
      rw [if_neg]
      rintro ⟨c1, -⟩
      omega
  unfold Num.scan
  rw [en, if_pos ((dig_left t l0).2 hd), i1, i2, i3]
/-- The bytes of a number: digits, and what stands between them. -/
def numeric (k : Nat) : Prop := 48 ≤ k ∧ k ≤ 57 ∨ k = 43 ∨ k = 45 ∨ k = 46 ∨ k = 101 ∨ k = 69
instance (k : Nat) : Decidable (numeric k) := by unfold numeric; exact inferInstance
theorem scan_numeric (l : List UInt8) : ∀ i, i < Num.scan l → numeric (nb l i) := by
  unfold Num.scan
  split
  · rename_i hd
    have dig : ∀ j, DigAt l j → numeric (nb l j) := fun j h => .inl h
    have l1 : ∀ i, i < Num.intEnd l (Num.neg0 l) → numeric (nb l i) := by
      intro i hi
      by_cases h0 : i < Num.neg0 l
      · unfold Num.neg0 at h0
        split at h0
        · rename_i h9
          have : i = 0 := by omega
          subst this
          unfold numeric
          omega
        · omega
      · unfold Num.intEnd at hi
        split at hi
        · have : i = Num.neg0 l := by omega
          subst this
          exact dig _ hd
        · exact dig _ ((run_end _ l _ rfl).2 i (by omega) hi)
    have l2 : ∀ i, i < Num.fracEnd l (Num.intEnd l (Num.neg0 l)) → numeric (nb l i) := by
      intro i hi
      by_cases h0 : i < Num.intEnd l (Num.neg0 l)
      · exact l1 i h0
      · unfold Num.fracEnd at hi
        split at hi
        · rename_i hh
          by_cases e : i = Num.intEnd l (Num.neg0 l)
          · subst e
            unfold numeric
            omega
          · exact dig _ ((run_end _ l _ rfl).2 i (by omega) hi)
        · omega
    intro i hi
    by_cases h0 : i < Num.fracEnd l (Num.intEnd l (Num.neg0 l))
    · exact l2 i h0
    · generalize Num.fracEnd l (Num.intEnd l (Num.neg0 l)) = f at *
      unfold Num.expEnd at hi
      split at hi
      · rename_i hh
        by_cases e : i = f
        · subst e
          unfold numeric
          omega
        · by_cases e2 : i < Num.signEnd l (f + 1)
          · unfold Num.signEnd at e2
            split at e2
            · have : i = f + 1 := by omega
              subst this
              unfold numeric
              omega
            · omega
          · exact dig _ ((run_end _ l _ rfl).2 i (by omega) hi)
      · omega
  · intro i hi
    omega

theorem one_left {l : List UInt8} (t : List UInt8) (h : (Utf.one l).2 ≠ 0) : Utf.one (l ++ t) = Utf.one l := by
  obtain ⟨h1, h2, h3⟩ := Utf.one_bytes h
  have := Utf.one_of_take (n := (Utf.one l).2) (l := l ++ t) h1 (by rw [List.take_append_of_le_length h3]; exact h2) (by rw [List.length_append]; omega)
  exact this
theorem unitF_left (t : List UInt8) : ∀ (k n : Nat) (l : List UInt8), (Quo.unitF k n l).2 = 0 → Quo.unitF k n (l ++ t) = Quo.unitF k n l
  | 0, _, _, _ => rfl
  | k + 1, n, [], h => by simp [Quo.unitF] at h
  | k + 1, n, c :: r, h => by
    rw [List.cons_append]
    unfold Quo.unitF at h ⊢
    cases hx : Quo.hexV c with
    | none => rfl
    | some d =>
      rw [hx] at h
      exact unitF_left t k _ r h
theorem unit_left {l : List UInt8} (t : List UInt8) (h : (Quo.unit l).2 = 0) : Quo.unit (l ++ t) = Quo.unit l := unitF_left t 4 0 l h
theorem follow_left {l : List UInt8} (t : List UInt8) (h : Quo.follow l = 0) : Quo.follow (l ++ t) = 0 := by
  unfold Quo.follow at h ⊢
  match l, h with
  | a :: b :: r, h => exact h
  | [a], h =>
    dsimp only at h
    split at h <;> cases h
theorem coded_left {l : List UInt8} (t : List UInt8) (h : (Quo.coded l).e = 0) : Quo.coded (l ++ t) = Quo.coded l := by
  unfold Quo.coded at h ⊢
  by_cases c1 : (Quo.unit l).2 ≠ 0
  · rw [if_pos c1] at h; exact absurd h c1
  have c1 : (Quo.unit l).2 = 0 := by omega
  have l1 := Quo.unit_len c1
  rw [unit_left t c1, List.drop_append_of_le_length l1]
  rw [if_neg (by omega)] at h ⊢
  by_cases c2 : 56320 ≤ (Quo.unit l).1 ∧ (Quo.unit l).1 ≤ 57343
  · rw [if_pos c2] at h; cases h
  rw [if_neg c2] at h ⊢
  by_cases c3 : (Quo.unit l).1 < 55296 ∨ 57343 < (Quo.unit l).1
  · rw [if_pos c3, if_neg (by omega), if_neg c2, if_pos c3]
  rw [if_neg c3] at h ⊢
  by_cases c4 : Quo.follow (l.drop 4) ≠ 0
  · rw [if_pos c4] at h; exact absurd h c4
  have c4 : Quo.follow (l.drop 4) = 0 := by omega
  rw [if_neg (by omega)] at h
  by_cases c5 : (Quo.unit (l.drop 6)).2 ≠ 0
  · rw [if_pos c5] at h; exact absurd h c5
  have c5 : (Quo.unit (l.drop 6)).2 = 0 := by omega
  have l2 := Quo.unit_len c5
  rw [List.length_drop] at l2
  rw [follow_left t c4, List.drop_append_of_le_length (show 6 ≤ l.length by omega), unit_left t c5]
  rw [if_neg (by omega : ¬ (Quo.unit l).2 ≠ 0), if_neg c2, if_neg c3, if_neg (by omega : ¬ Quo.follow (l.drop 4) ≠ 0), if_neg (by omega : ¬ (0 : Nat) ≠ 0)]
theorem part_left {l : List UInt8} (t : List UInt8) (h : (Quo.part l).e = 0) : Quo.part (l ++ t) = Quo.part l := by
  match l, h with
  | [], h => cases h
  | c :: r, h =>
    rw [List.cons_append]
    unfold Quo.part at h ⊢
    dsimp only at h ⊢
    by_cases c1 : c.toNat < 32
    · rw [if_pos c1] at h; cases h
    rw [if_neg c1] at h
    rw [if_neg c1, if_neg c1]
    by_cases c2 : c ≠ 92
    · rw [if_pos c2] at h
      rw [if_pos c2, if_pos c2]
      by_cases c3 : (Utf.one (c :: r)).2 = 0
      · rw [if_pos c3] at h; cases h
      have e := one_left t c3
      rw [List.cons_append] at e
      obtain ⟨-, -, h3⟩ := Utf.one_bytes c3
      rw [e, ← List.cons_append, List.take_append_of_le_length h3]
    rw [if_neg c2] at h
    rw [if_neg c2, if_neg c2]
    match r, h with
    | [], h => cases h
    | d :: r', h =>
      rw [List.cons_append]
      dsimp only at h ⊢
      cases hs : Quo.sign d with
      | some x => rfl
      | none =>
        rw [hs] at h
        dsimp only at h ⊢
        by_cases c4 : d = 117
        · rw [if_pos c4] at h
          rw [if_pos c4, if_pos c4]
          exact coded_left t h
        · rw [if_neg c4] at h; cases h
theorem scanF_left (t : List UInt8) : ∀ (k : Nat) (l : List UInt8), l.length = k → ∀ (s : List UInt8) (at' : Nat), (Quo.scanF s at' l).e = 0 → Quo.scanF s at' (l ++ t) = Quo.scanF s at' l := by
  intro k
  induction k using Nat.strongRecOn with
  | ind k ih =>
    intro l hl s at' h
    have hne : l ≠ [] := by
      rintro rfl
      rw [Quo.scanF_err (by simp) (by simp [Quo.part, Quo.err])] at h
      cases h
    have hh : (l ++ t).head? = l.head? := by
      cases l with
      | nil => exact absurd rfl hne
      | cons _ _ => rfl
    by_cases h1 : l.head? = some 34
    · rw [Quo.scanF_end h1, Quo.scanF_end (hh.trans h1)]
    · by_cases he : (Quo.part l).e = 0
      · obtain ⟨c, k1, k2, k3, k4⟩ := Quo.part_ok he
        have hp := part_left t he
        rw [Quo.scanF_on h1 he] at h ⊢
        rw [Quo.scanF_on (by rw [hh]; exact h1) (by rw [hp]; exact he), hp, List.drop_append_of_le_length k4]
        exact ih (l.drop (Quo.part l).size).length (by rw [List.length_drop]; omega) _ rfl _ _ h
      · rw [Quo.scanF_err h1 he] at h
        exact absurd h he
theorem quo_left {l : List UInt8} (t : List UInt8) (h : (Quo.scan l).e = 0) : Quo.scan (l ++ t) = Quo.scan l := by
  cases l with
  | nil => cases h
  | cons c r =>
    rw [List.cons_append]
    unfold Quo.scan at h ⊢
    dsimp only at h ⊢
    by_cases hc : c ≠ 34
    · rw [if_pos hc] at h; cases h
    · rw [if_neg hc] at h ⊢
      rw [if_neg hc]
      exact scanF_left t _ r rfl _ _ h

theorem skip_left {l : List UInt8} (t : List UInt8) (h : skip l ≠ []) : skip (l ++ t) = skip l ++ t := by
  induction l with
  | nil => exact absurd rfl h
  | cons c r ih =>
    unfold skip at *
    rw [List.cons_append, List.dropWhile_cons, List.dropWhile_cons]
    rw [List.dropWhile_cons] at h
    split
    · rename_i hb
      rw [if_pos hb] at h
      exact ih h
    · rfl
theorem skip_all {l : List UInt8} (t : List UInt8) (h : skip l = []) : skip (l ++ t) = skip t := by
  induction l with
  | nil => rfl
  | cons c r ih =>
    unfold skip at *
    rw [List.cons_append, List.dropWhile_cons]
    rw [List.dropWhile_cons] at h
    split
    · rename_i hb
      rw [if_pos hb] at h
      exact ih h
    · rename_i hb
      rw [if_neg hb] at h
      cases h
theorem skip_nil {l : List UInt8} : skip l = [] ↔ ∀ c ∈ l, blank c = true := by
  induction l with
  | nil => simp [skip]
  | cons c r ih =>
    unfold skip at *
    rw [List.dropWhile_cons]
    split
    · rename_i hb
      rw [ih]
      simp [hb]
    · rename_i hb
      constructor
      · intro h; cases h
      · intro h; exact absurd (h c (by simp)) hb
theorem skip_head {l : List UInt8} {c : UInt8} {r : List UInt8} (h : skip l = c :: r) : blank c = false := by
  unfold skip at h
  have := List.head?_dropWhile_not blank l
  rw [h] at this
  simpa using this
/-- No number goes on there. -/
def Stop (l : List UInt8) : Prop := ∀ c, l.head? = some c → ¬ (48 ≤ c.toNat ∧ c.toNat ≤ 57) ∧ c ≠ 46 ∧ c ≠ 101 ∧ c ≠ 69
theorem nb_at {A : List UInt8} {n : Nat} (B : List UInt8) (h : A.length = n) : nb (A ++ B) n = nb B 0 := by
  have := Num.nb_app A B 0
  rw [Nat.add_zero, h] at this
  exact this
theorem stop_at {l t : List UInt8} {n : Nat} (hn : n ≤ l.length) (h : Stop (l.drop n ++ t)) : StopAt (l ++ t) n := by
  have e : l ++ t = l.take n ++ (l.drop n ++ t) := by rw [← List.append_assoc, List.take_append_drop]
  have hl : (l.take n).length = n := by rw [List.length_take]; omega
  unfold StopAt Num.DigAt
  rw [e, nb_at _ hl]
  generalize l.drop n ++ t = x at *
  cases x with
  | nil => rw [Num.nb_nil]; omega
  | cons c r =>
    obtain ⟨h1, h2, h3, h4⟩ := h c rfl
    rw [Num.nb_zero]
    exact ⟨h1, fun e => h2 (UInt8.toNat_inj.1 e), fun e => h3 (UInt8.toNat_inj.1 e), fun e => h4 (UInt8.toNat_inj.1 e)⟩
theorem number_left {l t r : List UInt8} {v : Val} (h : number l = .ok v r) (hs : Stop (r ++ t)) : number (l ++ t) = .ok v (r ++ t) := by
  unfold number at h ⊢
  by_cases h0 : Num.scan l = 0
  · rw [if_pos h0] at h
    split at h <;> cases h
  · rw [if_neg h0] at h
    by_cases h1 : (Num.parse (l.take (Num.scan l))).2 ≠ 0
    · rw [if_pos h1] at h; cases h
    · rw [if_neg h1] at h
      injection h with hv hr
      subst hr
      have le := num_le l
      have e := scan_left h0 (stop_at le hs)
      rw [e, if_neg h0, List.take_append_of_le_length le, if_neg h1, List.drop_append_of_le_length le, hv]
theorem number_kind {l r : List UInt8} {v : Val} (h : number l = .ok v r) : v.kind = 3 ∧ r = l.drop (Num.scan l) ∧ Num.scan l ≠ 0 := by
  unfold number at h
  split at h
  · split at h <;> cases h
  · rename_i h0
    split at h
    · cases h
    · injection h with hv hr
      subst hv hr
      exact ⟨rfl, rfl, h0⟩
theorem word_left (v : Val) (t : List UInt8) : ∀ (w l r : List UInt8) (x : Val), word v w l = .ok x r → word v w (l ++ t) = .ok x (r ++ t) ∧ x = v
  | [], l, r, x, h => by
    unfold word at h ⊢
    injection h with h1 h2
    subst h1 h2
    exact ⟨rfl, rfl⟩
  | c :: w, [], r, x, h => by
    unfold word at h
    cases h
  | c :: w, d :: l, r, x, h => by
    rw [List.cons_append]
    unfold word at h ⊢
    by_cases e : d = c
    · rw [if_pos e] at h ⊢
      exact word_left v t w l r x h
    · rw [if_neg e] at h
      cases h
theorem text_left {l r : List UInt8} {v : Val} (t : List UInt8) (h : text l = .ok v r) : text (l ++ t) = .ok v (r ++ t) := by
  unfold text at h ⊢
  split at h
  · cases h
  · rename_i h1
    have h1 : (Quo.scan l).e = 0 := by omega
    obtain ⟨-, -, h4⟩ := scan_ok h1
    injection h with hv hr
    rw [quo_left t h1, if_neg (by omega), List.drop_append_of_le_length h4, hv, hr]
theorem head_left {l : List UInt8} (t : List UInt8) (h : l ≠ []) : (l ++ t).head? = l.head? := by
  cases l with
  | nil => exact absurd rfl h
  | cons _ _ => rfl
theorem tail_left {l : List UInt8} (t : List UInt8) (h : l ≠ []) : (l ++ t).tail = l.tail ++ t := by
  cases l with
  | nil => exact absurd rfl h
  | cons _ _ => rfl
theorem ne_of_head {l : List UInt8} {c : UInt8} (h : l.head? = some c) : l ≠ [] := by
  rintro rfl
  cases h
theorem field_left {keys : List (List UInt8)} {l r k : List UInt8} (t : List UInt8) (h : field keys l = .ok k r) (hr : r ≠ []) : field keys (l ++ t) = .ok k (r ++ t) := by
  unfold field at h ⊢
  by_cases h1 : l.head? ≠ some 34
  · rw [if_pos h1] at h; unfold here at h; split at h <;> cases h
  rw [if_neg h1] at h
  have h1 : l.head? = some 34 := by simpa using h1
  by_cases h2 : (Quo.scan l).e ≠ 0
  · rw [if_pos h2] at h; cases h
  rw [if_neg h2] at h
  have h2 : (Quo.scan l).e = 0 := by omega
  obtain ⟨-, -, h4⟩ := scan_ok h2
  by_cases h3 : (Quo.scan l).s ∈ keys
  · rw [if_pos h3] at h; cases h
  rw [if_neg h3] at h
  by_cases h5 : (skip (l.drop (Quo.scan l).size)).head? ≠ some 58
  · rw [if_pos h5] at h; unfold here at h; split at h <;> cases h
  rw [if_neg h5] at h
  have h5 : (skip (l.drop (Quo.scan l).size)).head? = some 58 := by simpa using h5
  injection h with hk hr'
  have n5 := ne_of_head h5
  rw [head_left t (ne_of_head h1), if_neg (by simpa using h1), quo_left t h2, if_neg (by omega), if_neg h3, List.drop_append_of_le_length h4, skip_left t n5, head_left t n5, if_neg (by simpa using h5), tail_left t n5, skip_left t (by rw [hr']; exact hr), hr', hk]
theorem named_left {obj : Bool} {keys ks : List (List UInt8)} {l r : List UInt8} (t : List UInt8) (h : named obj keys l = .ok ks r) (hr : r ≠ []) : named obj keys (l ++ t) = .ok ks (r ++ t) := by
  unfold named at h ⊢
  cases obj with
  | false =>
    simp only [Bool.false_eq_true, if_false] at h ⊢
    injection h with h1 h2
    rw [h1, h2]
  | true =>
    simp only [if_true] at h ⊢
    cases hf : field keys l with
    | no r e => rw [hf] at h; cases h
    | ok k r' =>
      rw [hf] at h
      injection h with h1 h2
      rw [field_left t hf (by rw [h2]; exact hr)]
      dsimp only
      rw [h1, h2]
/-- A reader of values keeps what it tells, whatever stands behind. -/
def Left (val : List UInt8 → Got Val) : Prop := ∀ (l r t : List UInt8) (v : Val), val l = .ok v r → (v.kind = 3 → Stop (r ++ t)) → val (l ++ t) = .ok v (r ++ t)
theorem stop_skip {r t : List UInt8} {c : UInt8} (h : (skip r).head? = some c) (hc : c = 44 ∨ c = 93 ∨ c = 125) : Stop (r ++ t) := by
  cases r with
  | nil => cases h
  | cons d r' =>
    intro x hx
    rw [List.cons_append] at hx
    injection hx with hx
    subst hx
    unfold skip at h
    rw [List.dropWhile_cons] at h
    split at h
    · rename_i hb
      unfold blank at hb
      rcases (by simpa using hb : d = 9 ∨ d = 10 ∨ d = 13 ∨ d = 32) with rfl | rfl | rfl | rfl <;> decide
    · injection h with h1
      subst h1
      rcases hc with rfl | rfl | rfl <;> decide
theorem items_some {k : Nat} {val : List UInt8 → Got Val} (hval : ∀ l, Good (Nice k l) l (val l)) {obj : Bool} {keys : List (List UInt8)} {kids : List Val} {v : Val} {l r : List UInt8} (h : items val obj keys kids l = .ok v r) : l ≠ [] := by
  rintro rfl
  unfold items at h
  have : named obj keys [] = .ok keys [] ∨ ∃ r e, named obj keys [] = .no r e := by
    unfold named
    cases obj with
    | false => exact .inl rfl
    | true => exact .inr ⟨[], 2, rfl⟩
  rcases this with e | ⟨_, _, e⟩
  · rw [e] at h
    dsimp only at h
    have g := hval []
    cases hz : val [] with
    | no _ _ => rw [hz] at h; cases h
    | ok _ _ => rw [hz] at g; have := g.2.1; simp at this
  · rw [e] at h; cases h
theorem items_left {k : Nat} {val : List UInt8 → Got Val} (hl : Left val) (hval : ∀ l, Good (Nice k l) l (val l)) (t : List UInt8) : ∀ (n : Nat) (l : List UInt8), l.length = n → ∀ (obj : Bool) (keys : List (List UInt8)) (kids : List Val) (v : Val) (r : List UInt8), items val obj keys kids l = .ok v r → items val obj keys kids (l ++ t) = .ok v (r ++ t) := by
  intro n
  induction n using Nat.strongRecOn with
  | ind n ih =>
    intro l hn obj keys kids v r h
    unfold items at h ⊢
    cases hf : named obj keys l with
    | no r e => rw [hf] at h; cases h
    | ok ks l1 =>
      rw [hf] at h
      dsimp only at h
      cases hg : val l1 with
      | no r e => rw [hg] at h; cases h
      | ok x r1 =>
        rw [hg] at h
        dsimp only at h
        have g := hval l1
        rw [hg] at g
        have n1 : l1 ≠ [] := by
          rintro rfl
          have := g.2.1
          simp at this
        rw [named_left t hf n1]
        dsimp only
        by_cases c1 : (skip r1).head? = some (close obj)
        · have n2 := ne_of_head c1
          have hc : close obj = 44 ∨ close obj = 93 ∨ close obj = 125 := by
            unfold close
            cases obj <;> simp
          rw [if_pos c1] at h
          rw [hl _ _ t _ hg (fun _ => stop_skip c1 hc)]
          dsimp only
          rw [skip_left t n2, head_left t n2, if_pos c1, tail_left t n2]
          injection h with h1 h2
          rw [h1, h2]
        · rw [if_neg c1] at h
          by_cases c2 : (skip r1).head? ≠ some 44
          · rw [if_pos c2] at h
            unfold here at h
            split at h <;> cases h
          · rw [if_neg c2] at h
            have c3 : (skip r1).head? = some 44 := by simpa using c2
            have n2 := ne_of_head c3
            rw [hl _ _ t _ hg (fun _ => stop_skip c3 (.inl rfl))]
            dsimp only
            rw [skip_left t n2, head_left t n2, if_neg c1, if_neg c2, tail_left t n2]
            split at h
            · rename_i hlt
              have i := ih _ (by omega) _ rfl obj ks _ _ _ h
              rw [skip_left t (items_some hval h), dif_pos (by simp; omega)]
              exact i
            · cases h
theorem many_left {k : Nat} {val : List UInt8 → Got Val} (hl : Left val) (hval : ∀ l, Good (Nice k l) l (val l)) {l r : List UInt8} {v : Val} (t : List UInt8) (hne : l ≠ []) (h : many val l = .ok v r) : many val (l ++ t) = .ok v (r ++ t) := by
  unfold many at h ⊢
  rw [head_left t hne, tail_left t hne]
  by_cases c : (skip l.tail).head? = some (close (decide (l.head? = some 123)))
  · rw [if_pos c] at h
    have n := ne_of_head c
    rw [skip_left t n, head_left t n, if_pos c, tail_left t n]
    injection h with h1 h2
    rw [h1, h2]
  · rw [if_neg c] at h
    have n := items_some hval h
    rw [skip_left t n, head_left t n, if_neg c]
    exact items_left hl hval t _ _ rfl _ _ _ _ _ h
theorem value_left : ∀ (k : Nat), Left (value k)
  | 0, l, r, t, v, h, _ => by
    unfold value at h
    cases l with
    | nil => cases h
    | cons c q =>
      dsimp only [List.head?_cons] at h
      split at h <;> cases h
  | k + 1, l, r, t, v, h, hs => by
    unfold value at h ⊢
    cases l with
    | nil => cases h
    | cons c q =>
      rw [List.cons_append]
      dsimp only [List.head?_cons] at h ⊢
      by_cases hb : begins c = true
      · rw [if_pos hb] at h ⊢
        unfold read at h ⊢
        dsimp only [List.head?_cons] at h ⊢
        by_cases c1 : digit c = true
        · rw [if_pos c1] at h ⊢
          exact number_left h (hs (number_kind h).1)
        · rw [if_neg c1] at h ⊢
          by_cases c2 : c = 110
          · rw [if_pos c2] at h ⊢
            exact (word_left _ t _ _ _ _ h).1
          · rw [if_neg c2] at h ⊢
            by_cases c3 : c = 116
            · rw [if_pos c3] at h ⊢
              exact (word_left _ t _ _ _ _ h).1
            · rw [if_neg c3] at h ⊢
              by_cases c4 : c = 102
              · rw [if_pos c4] at h ⊢
                exact (word_left _ t _ _ _ _ h).1
              · rw [if_neg c4] at h ⊢
                by_cases c5 : c = 34
                · rw [if_pos c5] at h ⊢
                  exact text_left t h
                · rw [if_neg c5] at h ⊢
                  exact many_left (value_left k) (value_good k) t (by simp) h
      · rw [if_neg hb] at h
        cases h

theorem parse_ahead {a : List UInt8} (h : ∀ c ∈ a, blank c = true) (s : List UInt8) : parse (a ++ s) = parse s := by
  unfold parse
  rw [skip_all s (skip_nil.2 h)]
theorem parse_ok {s r : List UInt8} {v : Val} (h : parse s = .ok v r) : ∃ q, value 64 (skip s) = .ok v q ∧ skip q = [] ∧ r = [] ∧ skip s ≠ [] := by
  unfold parse at h
  have g := value_good 64 (skip s)
  cases hv : value 64 (skip s) with
  | no r e => rw [hv] at h; cases h
  | ok x q =>
    rw [hv] at h g
    dsimp only at h
    split at h
    · rename_i hq
      injection h with h1 h2
      subst h1
      refine ⟨q, rfl, hq, h2.symm, ?_⟩
      intro e
      have := g.2.1
      rw [e] at this
      simp at this
    · cases h
theorem stop_blank {l : List UInt8} (h : ∀ c ∈ l, blank c = true) : Stop l := by
  intro c hc
  cases l with
  | nil => cases hc
  | cons d r =>
    injection hc with hc
    subst hc
    have hb := h d (by simp)
    unfold blank at hb
    rcases (by simpa using hb : d = 9 ∨ d = 10 ∨ d = 13 ∨ d = 32) with rfl | rfl | rfl | rfl <;> decide
theorem parse_behind {s b r : List UInt8} {v : Val} (h : parse s = .ok v r) (hb : ∀ c ∈ b, blank c = true) : parse (s ++ b) = .ok v [] := by
  obtain ⟨q, hv, hq, -, hne⟩ := parse_ok h
  have hqb : ∀ c ∈ q ++ b, blank c = true := by
    intro c hc
    rcases List.mem_append.1 hc with hc | hc
    · exact skip_nil.1 hq c hc
    · exact hb c hc
  unfold parse
  rw [skip_left b hne, value_left 64 _ _ b _ hv (fun _ => stop_blank hqb)]
  dsimp only
  rw [if_pos (skip_nil.2 hqb)]
/-- A value that is a number begins as one. -/
theorem value_number {k : Nat} {l r : List UInt8} {v : Val} (h : value k l = .ok v r) (hk : v.kind = 3) : number l = .ok v r := by
  cases k with
  | zero =>
    unfold value at h
    cases l with
    | nil => cases h
    | cons c q =>
      dsimp only [List.head?_cons] at h
      split at h <;> cases h
  | succ k =>
    unfold value at h
    cases l with
    | nil => cases h
    | cons c q =>
      dsimp only [List.head?_cons] at h
      split at h
      · unfold read at h
        dsimp only [List.head?_cons] at h
        split at h
        · exact h
        · exfalso
          split at h
          · rw [(word_left _ [] _ _ _ _ h).2] at hk; exact absurd hk (by decide)
          · split at h
            · rw [(word_left _ [] _ _ _ _ h).2] at hk; exact absurd hk (by decide)
            · split at h
              · rw [(word_left _ [] _ _ _ _ h).2] at hk; exact absurd hk (by decide)
              · split at h
                · unfold text at h
                  split at h
                  · cases h
                  · injection h with h1 h2
                    subst h1
                    exact absurd hk (by simp [Val.kind])
                · have kind_made : ∀ (o : Bool) ks vs, (made o ks vs).kind ≠ 3 := by
                    intro o ks vs
                    cases o <;> simp [made, Val.kind]
                  have kind_items : ∀ (n : Nat) (l : List UInt8), l.length = n → ∀ (o : Bool) ks vs x y, items (value k) o ks vs l = .ok x y → x.kind ≠ 3 := by
                    intro n
                    induction n using Nat.strongRecOn with
                    | ind n ih =>
                      intro l hl o ks vs x y h
                      unfold items at h
                      split at h
                      · cases h
                      · split at h
                        · cases h
                        · split at h
                          · injection h with h1 h2
                            rw [← h1]
                            exact kind_made _ _ _
                          · split at h
                            · unfold here at h
                              split at h <;> cases h
                            · split at h
                              · exact ih _ (by omega) _ rfl _ _ _ _ _ h
                              · cases h
                  unfold many at h
                  split at h
                  · injection h with h1 h2
                    rw [← h1] at hk
                    exact kind_made _ _ _ hk
                  · exact kind_items _ _ rfl _ _ _ _ _ h hk
      · cases h
theorem getLast_suffix {l m : List UInt8} {c : UInt8} (hs : m <:+ l) (hm : m ≠ []) (h : l.getLast? = some c) : m.getLast? = some c := by
  obtain ⟨p, rfl⟩ := hs
  rw [List.getLast?_append] at h
  cases hx : m.getLast? with
  | none => exact absurd (List.getLast?_eq_none_iff.1 hx) hm
  | some d => rw [hx] at h; simpa using h
/-- A text whose last byte closes something, cut short anywhere, is no value's. -/
theorem parse_cut {s r : List UInt8} {v : Val} {c : UInt8} (h : parse s = .ok v r) (hl : s.getLast? = some c) (hc : c = 93 ∨ c = 125 ∨ c = 34) {k : Nat} (hk : k < s.length) : ∃ q e, parse (s.take k) = .no q e := by
  have hcb : blank c = false := by rcases hc with rfl | rfl | rfl <;> decide
  have hcn : ¬ numeric c.toNat := by rcases hc with rfl | rfl | rfl <;> decide
  cases hp : parse (s.take k) with
  | no q e => exact ⟨q, e, rfl⟩
  | ok v1 r1 =>
    exfalso
    obtain ⟨q, hv, hq, -, hne⟩ := parse_ok h
    obtain ⟨q1, hv1, hq1, -, hne1⟩ := parse_ok hp
    have hs : s = s.take k ++ s.drop k := (List.take_append_drop k s).symm
    have ht : s.drop k ≠ [] := by
      intro e
      have := congrArg List.length e
      rw [List.length_drop] at this
      simp at this
      omega
    have e2 : skip s = skip (s.take k) ++ s.drop k := by rw [← skip_left _ hne1, ← hs]
    by_cases h3 : v.kind = 3
    · -- a number: its last byte is no closing one
      have g := value_good 64 (skip s)
      rw [hv] at g
      have hn := value_number hv h3
      obtain ⟨-, hr, h0⟩ := number_kind hn
      have le := num_le (skip s)
      have ls := getLast_suffix (skip_suf s) hne hl
      by_cases hq0 : q = []
      · rw [hq0] at hr
        have z : Num.scan (skip s) = (skip s).length := by
          have := congrArg List.length hr
          rw [List.length_drop] at this
          simp at this
          omega
        have hpos : 0 < (skip s).length := List.length_pos_iff.2 hne
        have nn := scan_numeric (skip s) ((skip s).length - 1) (by omega)
        rw [List.getLast?_eq_getElem?] at ls
        unfold Num.nb at nn
        rw [List.getD_eq_getElem?_getD, ls] at nn
        exact hcn nn
      · have lq := getLast_suffix (hr ▸ List.drop_suffix _ _ : q <:+ skip s) hq0 ls
        have := skip_nil.1 hq c (List.mem_of_getLast? lq)
        rw [hcb] at this
        cases this
    · have hk1 : v1.kind = 3 → Stop (q1 ++ s.drop k) := by
        intro h4
        exfalso
        -- then the whole is a number too
        have hn := value_number hv1 h4
        cases hx : skip (s.take k) with
        | nil => exact hne1 hx
        | cons d y =>
          rw [hx] at hn hv1
          have hd : digit d = true := by
            unfold value at hv1
            dsimp only [List.head?_cons] at hv1
            split at hv1
            · unfold read at hv1
              dsimp only [List.head?_cons] at hv1
              split at hv1
              · assumption
              · rename_i hnd
                obtain ⟨-, -, hs0⟩ := number_kind hn
                exfalso
                apply hnd
                have hdg : Num.DigAt (d :: y) (Num.neg0 (d :: y)) := by
                  apply Decidable.byContradiction
                  intro hh
                  exact hs0 (by unfold Num.scan; rw [if_neg hh])
                unfold digit
                unfold Num.neg0 at hdg
                rw [Num.nb_zero] at hdg
                split at hdg
                · rename_i h45
                  have : d = 45 := UInt8.toNat_inj.1 h45
                  simp [this]
                · unfold Num.DigAt at hdg
                  rw [Num.nb_zero] at hdg
                  simp [hdg]
            · cases hv1
          rw [e2, hx, List.cons_append] at hv
          unfold value at hv
          dsimp only [List.head?_cons] at hv
          rw [if_pos (by unfold begins; rw [hd]; simp)] at hv
          unfold read at hv
          dsimp only [List.head?_cons] at hv
          rw [if_pos hd] at hv
          exact h3 (number_kind hv).1
      have hv2 := value_left 64 _ _ (s.drop k) _ hv1 hk1
      rw [← e2, hv] at hv2
      injection hv2 with e3 e4
      have lq := getLast_suffix (List.drop_suffix k s) ht hl
      have : c ∈ q := by rw [e4]; exact List.mem_append.2 (.inr (List.mem_of_getLast? lq))
      have := skip_nil.1 hq c this
      rw [hcb] at this
      cases this
end Go.Proofs.YtehpjidajmoggaaGreatDoor.Jdec
