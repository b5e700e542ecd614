/- A part of what is_holds leans on (its texts, put together). Nothing is claimed here. -/
import Derived.ProofKit
import Derived.OpenShut
import Derived.Carry
import Derived.StillTailTactics
import Derived.Deep.QuietTactic
import Derived.WalkSpells
import Derived.WalkLawsBesides
import Derived.Deep.AppendSrc
import Derived.RangeFuncBox
import Derived.Test.YtlfbnfphocpgeaaGreatDoorIs1
namespace Go.Proofs.YtlfbnfphocpgeaaGreatDoor.Jdec
open Tre (Val none' Whole Wholes deep deeps)
inductive Got (α : Type) where
 | ok (x : α) (r : List UInt8)
 | no (r : List UInt8) (e : Nat)
def blank (c : UInt8) : Bool := decide (c = 9 ∨ c = 10 ∨ c = 13 ∨ c = 32)
def skip (l : List UInt8) : List UInt8 := l.dropWhile blank
def here {α : Type} (l : List UInt8) : Got α := if l = [] then .no l 2 else .no l 3
def word (v : Val) : List UInt8 → List UInt8 → Got Val
 | [], l => .ok v l
 | _ :: _, [] => .no [] 2
 | c :: w, d :: l => if d = c then word v w l else .no (d :: l) 3
def number (l : List UInt8) : Got Val :=
 if Num.scan l = 0 then (if l.length = 1 then .no l 2 else .no l 3)
 else if (Num.parse (l.take (Num.scan l))).2 ≠ 0 then .no l (Num.parse (l.take (Num.scan l))).2
 else .ok ⟨3, false, (Num.parse (l.take (Num.scan l))).1, [], [], []⟩ (l.drop (Num.scan l))
def text (l : List UInt8) : Got Val :=
 if (Quo.scan l).e ≠ 0 then .no l (Quo.scan l).e else .ok ⟨4, false, Num.zero, (Quo.scan l).s, [], []⟩ (l.drop (Quo.scan l).size)
def field (keys : List (List UInt8)) (l : List UInt8) : Got (List UInt8) :=
 if l.head? ≠ some 34 then here l
 else if (Quo.scan l).e ≠ 0 then .no l (Quo.scan l).e
 else if (Quo.scan l).s ∈ keys then .no l 6
 else if (skip (l.drop (Quo.scan l).size)).head? ≠ some 58 then here (skip (l.drop (Quo.scan l).size))
 else .ok (Quo.scan l).s (skip (skip (l.drop (Quo.scan l).size)).tail)
def close (obj : Bool) : UInt8 := if obj then 125 else 93
def made (obj : Bool) (keys : List (List UInt8)) (kids : List Val) : Val := ⟨if obj then 6 else 5, false, Num.zero, [], keys, kids⟩
def named (obj : Bool) (keys : List (List UInt8)) (l : List UInt8) : Got (List (List UInt8)) :=
 if obj then (match field keys l with | .ok k r => .ok (keys ++ [k]) r | .no r e => .no r e) else .ok keys l
def items (val : List UInt8 → Got Val) (obj : Bool) (keys : List (List UInt8)) (kids : List Val) (l : List UInt8) : Got Val :=
 match named obj keys l with
 | .no r e => .no r e
 | .ok ks l1 => match val l1 with
   | .no r e => .no r e
   | .ok x r =>
     if (skip r).head? = some (close obj) then .ok (made obj ks (kids ++ [x])) (skip r).tail
     else if (skip r).head? ≠ some 44 then here (skip r)
     else if _h : (skip (skip r).tail).length < l.length then items val obj ks (kids ++ [x]) (skip (skip r).tail) else .no l 0
termination_by l.length
def many (val : List UInt8 → Got Val) (l : List UInt8) : Got Val :=
 if (skip l.tail).head? = some (close (decide (l.head? = some 123))) then .ok (made (decide (l.head? = some 123)) [] []) (skip l.tail).tail
 else items val (decide (l.head? = some 123)) [] [] (skip l.tail)
def digit (c : UInt8) : Bool := decide (48 ≤ c.toNat ∧ c.toNat ≤ 57) || decide (c = 45)
def begins (c : UInt8) : Bool := decide (c = 110 ∨ c = 116 ∨ c = 102 ∨ c = 34 ∨ c = 91 ∨ c = 123) || digit c
def read (val : List UInt8 → Got Val) (l : List UInt8) : Got Val :=
 match l.head? with
 | none => .no l 2
 | some c =>
   if digit c then number l
   else if c = 110 then word ⟨1, false, Num.zero, [], [], []⟩ [110, 117, 108, 108] l
   else if c = 116 then word ⟨2, true, Num.zero, [], [], []⟩ [116, 114, 117, 101] l
   else if c = 102 then word ⟨2, false, Num.zero, [], [], []⟩ [102, 97, 108, 115, 101] l
   else if c = 34 then text l
   else many val l
def value : Nat → List UInt8 → Got Val
 | 0, l => match l.head? with
   | none => .no l 2
   | some c => if begins c then .no l 5 else .no l 3
 | k + 1, l => match l.head? with
   | none => .no l 2
   | some c => if begins c then read (value k) l else .no l 3
def parse (l : List UInt8) : Got Val :=
 match value 64 (skip l) with
 | .no r e => .no r e
 | .ok v r => if skip r = [] then .ok v [] else .no (skip r) 14
theorem skip_suf (l : List UInt8) : skip l <:+ l := List.dropWhile_suffix _
theorem skip_le (l : List UInt8) : (skip l).length ≤ l.length := (skip_suf l).length_le
theorem tail_suf (l : List UInt8) : l.tail <:+ l := List.tail_suffix l
def Good {α : Type} (A : α → List UInt8 → Prop) (l : List UInt8) : Got α → Prop
 | .ok x r => r <:+ l ∧ A x r
 | .no r e => r <:+ l ∧ e ≠ 0
theorem here_good {α : Type} {A : α → List UInt8 → Prop} {l : List UInt8} : Good A l (here l) := by
 unfold here
 split
 · exact ⟨List.suffix_refl _, by decide⟩
 · exact ⟨List.suffix_refl _, by decide⟩
theorem here_suf {α : Type} {A : α → List UInt8 → Prop} {l m : List UInt8} (hs : l <:+ m) : Good A m (here l) := by
 unfold here
 split
 · exact ⟨hs, by decide⟩
 · exact ⟨hs, by decide⟩
theorem Good.of_suf {α : Type} {A B : α → List UInt8 → Prop} {l m : List UInt8} {g : Got α} (h : Good A l g) (hs : l <:+ m) (hb : ∀ x r, r <:+ l → A x r → B x r) : Good B m g := by
 cases g with
 | ok x r => exact ⟨h.1.trans hs, hb _ _ h.1 h.2⟩
 | no r e => exact ⟨h.1.trans hs, h.2⟩
theorem bad_nil : Utf.bad [] = none := by simp [Utf.bad, Utf.scan_nil]
theorem scan_ok {l : List UInt8} (h : (Quo.scan l).e = 0) : Utf.bad (Quo.scan l).s = none ∧ 0 < (Quo.scan l).size ∧ (Quo.scan l).size ≤ l.length := by
 cases l with
 | nil => cases h
 | cons c r =>
   unfold Quo.scan at h ⊢
   dsimp only at h ⊢
   split at h
   · cases h
   · rename_i hc
     rw [if_neg hc]
     have := Quo.scanF_ok r.length r rfl [] 1 bad_nil h
     exact ⟨this.1, by omega, by simp; omega⟩
theorem num_le (l : List UInt8) : Num.scan l ≤ l.length := by
 unfold Num.scan
 split
 · rename_i h
   have h0 := Num.digAt_lt h
   have h1 : Num.intEnd l (Num.neg0 l) ≤ l.length := by
     unfold Num.intEnd
     split
     · omega
     · exact Num.run_le (by omega)
   have h2 : Num.fracEnd l (Num.intEnd l (Num.neg0 l)) ≤ l.length := by
     unfold Num.fracEnd
     split
     · rename_i hh
       exact Num.run_le (Nat.le_of_lt (Num.digAt_lt hh.2))
     · exact h1
   unfold Num.expEnd
   split
   · rename_i hh
     exact Num.run_le (Nat.le_of_lt (Num.digAt_lt hh.2))
   · exact h2
 · exact Nat.zero_le _
theorem num_right (l : List UInt8) : Num.Right (Num.parse l).1 := by
 have hz : Num.Right Num.zero := by decide
 unfold Num.parse
 split
 · exact hz
 · unfold Num.norm
   split
   · exact hz
   · split
     · assumption
     · exact hz
theorem plain_whole {v : Val} (hk : v.kids = []) (h : Tre.Own v) : Whole v := Tre.whole_iff.2 ⟨h, by rw [hk]; simp⟩
theorem own_flat (k : Int) (i : Bool) (n : Num.Dec) (s : List UInt8) (h1 : 1 ≤ k) (h2 : k ≤ 4) (hi : k ≠ 2 → i = false) (hn : k ≠ 3 → n = Num.zero) (hs : k ≠ 4 → s = []) (hr : Num.Right n) (hb : Utf.bad s = none) : Whole ⟨k, i, n, s, [], []⟩ :=
 plain_whole rfl ⟨h1, by show k ≤ 6; omega, hi, hn, hs, fun _ => rfl, fun _ => rfl, hr, hb, fun _ => rfl, by simp [Val.keys], by simp [Val.keys]⟩
theorem zero_right : Num.Right Num.zero := by decide
def Nice (k : Nat) (l : List UInt8) (v : Val) (r : List UInt8) : Prop := r.length < l.length ∧ Whole v ∧ deep v ≤ k
theorem word_good {v : Val} {k : Nat} (hv : Whole v) (hd : deep v ≤ k) : ∀ (w l : List UInt8), w ≠ [] → Good (Nice k l) l (word v w l)
 | [], _, h => absurd rfl h
 | c :: w, [], _ => ⟨List.suffix_refl _, by decide⟩
 | c :: w, d :: l, _ => by
   unfold word
   split
   · cases w with
     | nil =>
       unfold word
       exact ⟨List.suffix_cons _ _, by simp, hv, hd⟩
     | cons c2 w =>
       exact (word_good hv hd (c2 :: w) l (by simp)).of_suf (List.suffix_cons _ _) fun x r _ h => ⟨by have := h.1; simp; omega, h.2⟩
   · exact ⟨List.suffix_refl _, by decide⟩
theorem number_good (k : Nat) (l : List UInt8) : Good (Nice (k + 1) l) l (number l) := by
 unfold number
 split
 · split
   · exact ⟨List.suffix_refl _, by decide⟩
   · exact ⟨List.suffix_refl _, by decide⟩
 · rename_i h0
   split
   · rename_i h1
     exact ⟨List.suffix_refl _, h1⟩
   · have := num_le l
     exact ⟨List.drop_suffix _ _, by rw [List.length_drop]; omega, own_flat 3 false _ [] (by decide) (by decide) (fun _ => rfl) (fun h => absurd rfl h) (fun _ => rfl) (num_right _) bad_nil, by simp [deep]⟩
theorem text_good (k : Nat) (l : List UInt8) : Good (Nice (k + 1) l) l (text l) := by
 unfold text
 split
 · rename_i h1
   exact ⟨List.suffix_refl _, h1⟩
 · rename_i h1
   obtain ⟨h2, h3, h4⟩ := scan_ok (l := l) (by omega)
   exact ⟨List.drop_suffix _ _, by rw [List.length_drop]; omega, own_flat 4 false Num.zero _ (by decide) (by decide) (fun _ => rfl) (fun _ => rfl) (fun h => absurd rfl h) zero_right h2, by simp [deep]⟩
theorem field_good (keys : List (List UInt8)) (l : List UInt8) : Good (fun k r => r.length < l.length ∧ k ∉ keys ∧ Utf.bad k = none) l (field keys l) := by
 unfold field
 split
 · exact here_good
 · split
   · rename_i h1
     exact ⟨List.suffix_refl _, h1⟩
   · rename_i h1
     obtain ⟨h2, h3, h4⟩ := scan_ok (l := l) (by omega)
     split
     · exact ⟨List.suffix_refl _, by decide⟩
     · rename_i h5
       have s1 : skip (l.drop (Quo.scan l).size) <:+ l := (skip_suf _).trans (List.drop_suffix _ _)
       split
       · exact here_suf s1
       · have := ((skip_suf (skip (l.drop (Quo.scan l).size)).tail).trans (tail_suf _)).length_le
         have := skip_le (l.drop (Quo.scan l).size)
         rw [List.length_drop] at this
         exact ⟨((skip_suf _).trans (tail_suf _)).trans s1, by omega, h5, h2⟩
theorem named_good (obj : Bool) (keys : List (List UInt8)) (l : List UInt8) : Good (fun ks r => r.length ≤ l.length ∧ (if obj then ∃ k, ks = keys ++ [k] ∧ k ∉ keys ∧ Utf.bad k = none else ks = keys)) l (named obj keys l) := by
 unfold named
 cases obj with
 | false => exact ⟨List.suffix_refl _, Nat.le_refl _, rfl⟩
 | true =>
   have h := field_good keys l
   cases hf : field keys l with
   | ok k r =>
     rw [hf] at h
     exact ⟨h.1, Nat.le_of_lt h.2.1, by simpa using ⟨h.2.2.1, h.2.2.2⟩⟩
   | no r e =>
     rw [hf] at h
     exact h
structure Sofar (k : Nat) (obj : Bool) (keys : List (List UInt8)) (kids : List Val) : Prop where
 len : obj = true → keys.length = kids.length
 none : obj = false → keys = []
 bad : ∀ x ∈ keys, Utf.bad x = Option.none
 nodup : keys.Nodup
 kids : ∀ v ∈ kids, Whole v ∧ deep v ≤ k
theorem made_nice {k : Nat} {obj : Bool} {keys : List (List UInt8)} {kids : List Val} (h : Sofar k obj keys kids) : Whole (made obj keys kids) ∧ deep (made obj keys kids) ≤ k + 1 := by
 have hw : ∀ v ∈ kids, Whole v := fun v hv => (h.kids v hv).1
 have hd : deeps kids ≤ k := Tre.deeps_le.2 fun v hv => (h.kids v hv).2
 cases obj with
 | true =>
   refine ⟨Tre.whole_iff.2 ⟨⟨by simp [made, Val.kind], by simp [made, Val.kind], fun _ => rfl, fun _ => rfl, fun _ => rfl, fun e => absurd e (by simp [made, Val.kind]), fun e => absurd rfl e, zero_right, bad_nil, fun _ => h.len rfl, h.bad, h.nodup⟩, hw⟩, ?_⟩
   simp [made, deep]
   exact hd
 | false =>
   have := h.none rfl
   subst this
   refine ⟨Tre.whole_iff.2 ⟨⟨by simp [made, Val.kind], by simp [made, Val.kind], fun _ => rfl, fun _ => rfl, fun _ => rfl, fun e => absurd e (by simp [made, Val.kind]), fun _ => rfl, zero_right, bad_nil, fun e => absurd e (by simp [made, Val.kind]), by simp [made, Val.keys], by simp [made, Val.keys]⟩, hw⟩, ?_⟩
   simp [made, deep]
   exact hd
theorem items_good {k : Nat} {val : List UInt8 → Got Val} (hval : ∀ l, Good (Nice k l) l (val l)) : ∀ (n : Nat) (l : List UInt8), l.length = n → ∀ (obj : Bool) (keys : List (List UInt8)) (kids : List Val), Sofar k obj keys kids → Good (fun v r => r.length < l.length ∧ Whole v ∧ deep v ≤ k + 1) l (items val obj keys kids l) := by
 intro n
 induction n using Nat.strongRecOn with
 | ind n ih =>
   intro l hl obj keys kids hs
   have hn := named_good obj keys l
   unfold items
   cases hf : named obj keys l with
   | no r e =>
     rw [hf] at hn
     exact hn
   | ok ks l1 =>
     rw [hf] at hn
     obtain ⟨n1, n2, n3⟩ := hn
     have hv := hval l1
     dsimp only
     cases hg : val l1 with
     | no r e =>
       rw [hg] at hv
       exact ⟨hv.1.trans n1, hv.2⟩
     | ok x r =>
       rw [hg] at hv
       obtain ⟨v1, v2, v3, v4⟩ := hv
       dsimp only
       have s1 : skip r <:+ l := ((skip_suf r).trans v1).trans n1
       have z1 := skip_le r
       have hs' : Sofar k obj ks (kids ++ [x]) := by
         have hk : ∀ v ∈ kids ++ [x], Whole v ∧ deep v ≤ k := by
           intro v hv
           rcases List.mem_append.1 hv with hv | hv
           · exact hs.kids v hv
           · rw [List.mem_singleton.1 hv]
             exact ⟨v3, v4⟩
         cases obj with
         | false =>
           have e : ks = keys := n3
           subst e
           exact ⟨fun e => absurd e (by decide), hs.none, hs.bad, hs.nodup, hk⟩
         | true =>
           obtain ⟨c, rfl, c1, c2⟩ : ∃ c, ks = keys ++ [c] ∧ c ∉ keys ∧ Utf.bad c = Option.none := n3
           refine ⟨fun _ => by simp [hs.len rfl], fun e => absurd e (by decide), ?_, ?_, hk⟩
           · intro y hy
             rcases List.mem_append.1 hy with hy | hy
             · exact hs.bad y hy
             · rw [List.mem_singleton.1 hy]
               exact c2
           · rw [List.nodup_append]
             refine ⟨hs.nodup, by simp, ?_⟩
             intro a ha b hb e
             subst e
             rw [List.mem_singleton.1 hb] at ha
             exact c1 ha
       split
       · rename_i hc
         have : 0 < (skip r).length := by
           cases h9 : skip r with
           | nil => rw [h9] at hc; cases hc
           | cons _ _ => simp
         exact ⟨(tail_suf _).trans s1, by rw [List.length_tail]; omega, made_nice hs'⟩
       · split
         · exact here_suf s1
         · rename_i hc
           have hc : (skip r).head? = some 44 := by simpa using hc
           have h0 : 0 < (skip r).length := by
             cases h9 : skip r with
             | nil => rw [h9] at hc; cases hc
             | cons _ _ => simp
           have z2 := skip_le (skip r).tail
           rw [List.length_tail] at z2
           have s2 : skip (skip r).tail <:+ l := ((skip_suf _).trans (tail_suf _)).trans s1
           rw [dif_pos (by omega)]
           exact (ih _ (by omega) _ rfl obj ks _ hs').of_suf s2 fun v r _ h => ⟨by have := h.1; omega, h.2⟩
theorem sofar_nil (k : Nat) (obj : Bool) : Sofar k obj [] [] := ⟨fun _ => rfl, fun _ => rfl, by simp, by simp, by simp⟩
theorem many_good {k : Nat} {val : List UInt8 → Got Val} (hval : ∀ l, Good (Nice k l) l (val l)) {l : List UInt8} (hl : l ≠ []) : Good (Nice (k + 1) l) l (many val l) := by
 have h0 : 0 < l.length := List.length_pos_iff.2 hl
 have z := skip_le l.tail
 rw [List.length_tail] at z
 have s : skip l.tail <:+ l := (skip_suf _).trans (tail_suf _)
 unfold many
 split
 · exact ⟨(tail_suf _).trans s, by rw [List.length_tail]; omega, made_nice (sofar_nil k _)⟩
 · exact (items_good hval _ _ rfl _ [] [] (sofar_nil k _)).of_suf s fun v r _ h => ⟨by have := h.1; omega, h.2⟩
theorem value_good : ∀ (k : Nat) (l : List UInt8), Good (Nice k l) l (value k l)
 | 0, l => by
   unfold value
   cases l with
   | nil => exact ⟨List.suffix_refl _, by decide⟩
   | cons c r =>
     show Good _ _ (if begins c then .no (c :: r) 5 else .no (c :: r) 3)
     split
     · exact ⟨List.suffix_refl _, by decide⟩
     · exact ⟨List.suffix_refl _, by decide⟩
 | k + 1, l => by
   unfold value
   cases l with
   | nil => exact ⟨List.suffix_refl _, by decide⟩
   | cons c r =>
     show Good _ _ (if begins c then read (value k) (c :: r) else .no (c :: r) 3)
     split
     · unfold read
       show Good _ _ (if digit c then _ else _)
       split
       · exact number_good k _
       · split
         · exact word_good (own_flat 1 false Num.zero [] (by decide) (by decide) (fun _ => rfl) (fun _ => rfl) (fun _ => rfl) zero_right bad_nil) (by simp [deep]) _ _ (by simp)
         · split
           · exact word_good (own_flat 2 true Num.zero [] (by decide) (by decide) (fun h => absurd rfl h) (fun _ => rfl) (fun _ => rfl) zero_right bad_nil) (by simp [deep]) _ _ (by simp)
           · split
             · exact word_good (own_flat 2 false Num.zero [] (by decide) (by decide) (fun _ => rfl) (fun _ => rfl) (fun _ => rfl) zero_right bad_nil) (by simp [deep]) _ _ (by simp)
             · split
               · exact text_good k _
               · exact many_good (value_good k) (by simp)
     · exact ⟨List.suffix_refl _, by decide⟩
theorem parse_good (l : List UInt8) : Good (fun v r => r = [] ∧ Tre.Right v) l (parse l) := by
 have h := value_good 64 (skip l)
 unfold parse
 cases hv : value 64 (skip l) with
 | no r e =>
   rw [hv] at h
   exact ⟨h.1.trans (skip_suf l), h.2⟩
 | ok v r =>
   rw [hv] at h
   obtain ⟨h1, h2, h3, h4⟩ := h
   dsimp only
   split
   · exact ⟨List.nil_suffix, rfl, h4, h3⟩
   · exact ⟨((skip_suf r).trans h1).trans (skip_suf l), by decide⟩
end Go.Proofs.YtlfbnfphocpgeaaGreatDoor.Jdec
namespace Go.Proofs.YtlfbnfphocpgeaaGreatDoor.Jdec
open Tre (Val none' Whole Wholes deep deeps)
open Num (nb dg DigAt run)
theorem run_end : ∀ (n : Nat) (l : List UInt8) (i : Nat), l.length - i = n → ¬ DigAt l (run l i) ∧ (∀ j, i ≤ j → j < run l i → DigAt l j) := by
 intro n
 induction n using Nat.strongRecOn with
 | ind n ih =>
   intro l i hn
   by_cases h : DigAt l i
   · have h0 := Num.digAt_lt h
     rw [Num.run_on h]
     obtain ⟨h1, h2⟩ := ih (l.length - (i + 1)) (by omega) l (i + 1) rfl
     refine ⟨h1, fun j hj hr => ?_⟩
     by_cases e : j = i
     · subst e; exact h
     · exact h2 j (by omega) hr
   · rw [Num.run_stop h]
     exact ⟨h, fun j h1 h2 => by omega⟩
def numeric (k : Nat) : Prop := 48 ≤ k ∧ k ≤ 57 ∨ k = 43 ∨ k = 45 ∨ k = 46 ∨ k = 101 ∨ k = 69
instance (k : Nat) : Decidable (numeric k) := by unfold numeric; exact inferInstance
theorem scan_numeric (l : List UInt8) : ∀ i, i < Num.scan l → numeric (nb l i) := by
 unfold Num.scan
 split
 · rename_i hd
   have dig : ∀ j, DigAt l j → numeric (nb l j) := fun j h => .inl h
   have l1 : ∀ i, i < Num.intEnd l (Num.neg0 l) → numeric (nb l i) := by
     intro i hi
     by_cases h0 : i < Num.neg0 l
     · unfold Num.neg0 at h0
       split at h0
       · rename_i h9
         have : i = 0 := by omega
         subst this
         unfold numeric
         omega
       · omega
     · unfold Num.intEnd at hi
       split at hi
       · have : i = Num.neg0 l := by omega
         subst this
         exact dig _ hd
       · exact dig _ ((run_end _ l _ rfl).2 i (by omega) hi)
   have l2 : ∀ i, i < Num.fracEnd l (Num.intEnd l (Num.neg0 l)) → numeric (nb l i) := by
     intro i hi
     by_cases h0 : i < Num.intEnd l (Num.neg0 l)
     · exact l1 i h0
     · unfold Num.fracEnd at hi
       split at hi
       · rename_i hh
         by_cases e : i = Num.intEnd l (Num.neg0 l)
         · subst e
           unfold numeric
           omega
         · exact dig _ ((run_end _ l _ rfl).2 i (by omega) hi)
       · omega
   intro i hi
   by_cases h0 : i < Num.fracEnd l (Num.intEnd l (Num.neg0 l))
   · exact l2 i h0
   · generalize Num.fracEnd l (Num.intEnd l (Num.neg0 l)) = f at *
     unfold Num.expEnd at hi
     split at hi
     · rename_i hh
       by_cases e : i = f
       · subst e
         unfold numeric
         omega
       · by_cases e2 : i < Num.signEnd l (f + 1)
         · unfold Num.signEnd at e2
           split at e2
           · have : i = f + 1 := by omega
             subst this
             unfold numeric
             omega
           · omega
         · exact dig _ ((run_end _ l _ rfl).2 i (by omega) hi)
     · omega
 · intro i hi
   omega
theorem word_left (v : Val) (t : List UInt8) : ∀ (w l r : List UInt8) (x : Val), word v w l = .ok x r → word v w (l ++ t) = .ok x (r ++ t) ∧ x = v
 | [], l, r, x, h => by
   unfold word at h ⊢
   injection h with h1 h2
   subst h1 h2
   exact ⟨rfl, rfl⟩
 | c :: w, [], r, x, h => by
   unfold word at h
   cases h
 | c :: w, d :: l, r, x, h => by
   rw [List.cons_append]
   unfold word at h ⊢
   by_cases e : d = c
   · rw [if_pos e] at h ⊢
     exact word_left v t w l r x h
   · rw [if_neg e] at h
     cases h
theorem parse_ok {s r : List UInt8} {v : Val} (h : parse s = .ok v r) : ∃ q, value 64 (skip s) = .ok v q ∧ skip q = [] ∧ r = [] ∧ skip s ≠ [] := by
 unfold parse at h
 have g := value_good 64 (skip s)
 cases hv : value 64 (skip s) with
 | no r e => rw [hv] at h; cases h
 | ok x q =>
   rw [hv] at h g
   dsimp only at h
   split at h
   · rename_i hq
     injection h with h1 h2
     subst h1
     refine ⟨q, rfl, hq, h2.symm, ?_⟩
     intro e
     have := g.2.1
     rw [e] at this
     simp at this
   · cases h
end Go.Proofs.YtlfbnfphocpgeaaGreatDoor.Jdec
namespace Go.Proofs.YtlfbnfphocpgeaaGreatDoor.Jenc
open Tre (Val Whole Wholes deep deeps sort)
def brk (wide : Bool) (d : Nat) : List UInt8 := if wide then 10 :: (List.replicate d [32, 32]).flatten else []
def key (wide : Bool) (k : List UInt8) : List UInt8 := Quo.print k ++ (58 :: (if wide then [32] else []))
def opener (obj : Bool) : UInt8 := if obj then 123 else 91
mutual
def prt (wide : Bool) (d : Nat) : Val → List UInt8
 | ⟨k, i, n, s, ks, vs⟩ =>
   if k = 1 then [110, 117, 108, 108] else if k = 2 then (if i then [116, 114, 117, 101] else [102, 97, 108, 115, 101])
   else if k = 3 then Num.print n else if k = 4 then Quo.print s
   else opener (decide (k = 6)) :: (prts wide (d + 1) (decide (k = 6)) true ks vs ++ ((if vs.isEmpty then [] else brk wide d) ++ [Jdec.close (decide (k = 6))]))
def prts (wide : Bool) (d : Nat) (obj first : Bool) (ks : List (List UInt8)) : List Val → List UInt8
 | [] => []
 | v :: r => (if first then [] else [44]) ++ (brk wide d ++ ((if obj then key wide (ks.headD []) else []) ++ (prt wide d v ++ prts wide d obj false ks.tail r)))
end
mutual
def pcs : Val → List (List UInt8)
 | ⟨k, i, n, s, ks, vs⟩ =>
   if k = 1 then [[110, 117, 108, 108]] else if k = 2 then [if i then [116, 114, 117, 101] else [102, 97, 108, 115, 101]]
   else if k = 3 then [Num.print n] else if k = 4 then [Quo.print s]
   else [opener (decide (k = 6))] :: (pcss (decide (k = 6)) true ks vs ++ [[Jdec.close (decide (k = 6))]])
def pcss (obj first : Bool) (ks : List (List UInt8)) : List Val → List (List UInt8)
 | [] => []
 | v :: r => (if first then [] else [[44]]) ++ ((if obj then [Quo.print (ks.headD []), [58]] else []) ++ (pcs v ++ pcss obj false ks.tail r))
end
structure WS where
 out : List UInt8
 deep : Int
 last : List UInt8
theorem num_bytes {n : Num.Dec} (h : Num.Right n) : Num.print n ≠ [] ∧ ∀ c ∈ Num.print n, Jdec.numeric c.toNat := by
 obtain ⟨h1, h2, h3⟩ := Num.parse_print h
 refine ⟨h3, fun c hc => ?_⟩
 obtain ⟨i, hi, e⟩ := List.mem_iff_getElem.1 hc
 have := Jdec.scan_numeric (Num.print n) i (by omega)
 unfold Num.nb at this
 rw [List.getD_eq_getElem?_getD, List.getElem?_eq_getElem hi] at this
 simpa [e] using this
theorem brk_false (d : Nat) : brk false d = [] := rfl
mutual
theorem narrow_val : ∀ (v : Val) (d : Nat), (pcs v).flatten = prt false d v
 | ⟨k, i, n, t, ks, vs⟩, d => by
   rw [pcs, prt]
   split
   · rfl
   split
   · simp
   split
   · simp
   split
   · simp
   rw [List.flatten_cons, List.flatten_append, narrow_vals vs (d + 1)]
   simp [brk_false]
theorem narrow_vals : ∀ (vs : List Val) (d : Nat) (obj first : Bool) (ks : List (List UInt8)), (pcss obj first ks vs).flatten = prts false d obj first ks vs
 | [], _, _, _, _ => by rw [pcss, prts]; rfl
 | v :: r, d, obj, first, ks => by
   rw [pcss, prts, List.flatten_append, List.flatten_append, List.flatten_append, narrow_val v d, narrow_vals r d, brk_false]
   cases first <;> cases obj <;> simp [key]
end
end Go.Proofs.YtlfbnfphocpgeaaGreatDoor.Jenc
namespace Go.Proofs.YtlfbnfphocpgeaaGreatDoor.Kit
open Go.ChangeShapes Go.WideShapes Go.ChangeAt Go.RowKit
theorem own : ownKnob Tryz.prog.godebug = none := by kernel_rfl
theorem laid : laidOutB Tryz.prog = true := by kernel_rfl
section
variable {H : Type} {enc : TypeId × Value → H} {P : Program}
theorem args_stay (hl : laidOutB P = true) {W W' : World} (hB : Below W.heap.size W W') :
   ∀ (ts : List TypeId) (vs : List Value) (ds : List (DataW H)) (ps : List MemPlace),
     (∀ t ∈ ts, P.readableRec t = true ∧ t < P.types.size) → (∀ x ∈ ps, x.block < W.heap.size) →
     DataW.TrodAll enc P W 0 (fun _ => true) true ts vs ds ps → DataW.TrodAll enc P W' 0 (fun b => decide (b < W.heap.size)) true ts vs ds ps
 | [], vs, ds, ps, _, _, h => by
   obtain ⟨rfl, rfl, rfl⟩ := trodAll_nil h
   exact rfl
 | t :: ts, vs, ds, ps, hr, hp, h => by
   obtain ⟨v, vs', d, ds', p, q, rfl, rfl, rfl, h1, h2⟩ := trodAll_cons h
   have ht := hr t (by simp)
   exact ⟨p, q, Below.trod hl ht.1 ht.2 h1 hB (fun x hx => hp x (by simp [hx])),
     args_stay hl hB ts vs' ds' q (fun t' h' => hr t' (by simp [h'])) (fun x hx => hp x (by simp [hx])) h2, rfl⟩
theorem law_done {f : Func} {s : ChangeSpec} {apart : Bool} {W W' : World} {args : Array Value} {ds gs : List (DataW H)} {before : List MemPlace} {tb : TypeId}
   (hl : laidOutB P = true) (hv : s.vars = []) (hfn : s.fn H (ds ++ gs) = { results := [.lit (.bool true)], args := ds }) (hrt : f.resultTypes = #[tb]) (htb : P.underlying tb = some .bool)
   (hr : ∀ t ∈ f.params.toList, P.readableRec t = true ∧ t < P.types.size)
   (hW : DataW.Whole enc P f.params.toList s.vars apart W args.toList ds gs before) (hB : Below W.heap.size W W') :
   s.post enc P f apart true false false W args (.bool true) W' := by
 have hlt : ∀ p ∈ before, p.block < W.heap.size := fun p hp => hW.lt p hp
 have hW0 := hW
 obtain ⟨p, q, hA, hV, rfl, hz, hn⟩ := hW
 rw [hv] at hV
 obtain ⟨rfl, rfl⟩ := trodVars_none hV
 refine ⟨ds, [], p ++ [], [], p, [], hW0, ?_, ?_, ?_, hB.frame _, fun h => by cases h⟩
 · rw [hfn, hrt]
   exact trodAll_mk1 (shut_bool htb true)
 · rw [hfn]
   exact args_stay hl hB _ _ _ _ hr (fun x hx => hlt x (by simp [hx])) hA
 · rw [hv, hfn]
   exact rfl
end
theorem cell_of {w : World} {b : Nat} {c : Array Value} {t : TypeId} {fr : Nat × Nat} (h : w.heap[b]? = some (.cells c t fr)) (i : Nat) : w.cell? ⟨b, i, none⟩ = c[i]? := by simp [World.cell?, h]
theorem free_of {w : World} {b : Nat} {c : Array Value} {t : TypeId} (h : w.heap[b]? = some (.cells c t (0, 0))) (i : Nat) : w.frozen? ⟨b, i, none⟩ = false := by simp [World.frozen?, h]
theorem lt_of_heap {w : World} {b : Nat} {o : Obj} (h : w.heap[b]? = some o) : b < w.heap.size := (Array.getElem?_eq_some_iff.1 h).1
theorem set_of {w : World} {b : Nat} {c : Array Value} {t : TypeId} {fr : Nat × Nat} (h : w.heap[b]? = some (.cells c t fr)) (i : Nat) (v : Value) : (w.setCell ⟨b, i, none⟩ v).heap[b]? = some (.cells (c.setIfInBounds i v) t fr) := by
 obtain ⟨hlt, hk⟩ := Array.getElem?_eq_some_iff.1 h
 show (w.heap.modify b _)[b]? = _
 rw [Array.getElem?_eq_getElem (by rw [Array.size_modify]; exact hlt), Array.getElem_modify_self, hk]
 rfl
theorem new_of {w : World} {b : Nat} {x : Obj} (h : w.heap[b]? = some x) (o : Obj) : (w.alloc o).heap[b]? = some x := (Below.heap_alloc _ _ _ (lt_of_heap h)).trans h
end Go.Proofs.YtlfbnfphocpgeaaGreatDoor.Kit
namespace Go.Proofs.YtlfbnfphocpgeaaGreatDoor.Byt
open Go.RowKit Kit Go.ChangeShapes Go.WideShapes
def bytesV (l : List Nat) : List Value := l.map fun x : Nat => .int .u8 (x : Int)
def Bs (w : World) (v : Value) (l : List Nat) : Prop :=
 (∀ b ∈ l, b < 256) ∧ ∃ a c, v = .slice a l.length c ∧ l.length ≤ c ∧
   (l = [] ∨ ∃ g off, a = some ⟨g, off, none⟩ ∧ g < w.heap.size ∧ ∀ (i x : Nat), l[i]? = some x → w.cell? ⟨g, off + i, none⟩ = some (.int .u8 (x : Int)))
theorem Bs.below {w w' : World} {v : Value} {l : List Nat} (h : Bs w v l) (b : Below w.heap.size w w') : Bs w' v l := by
 obtain ⟨hb, a, c, rfl, hc, h⟩ := h
 refine ⟨hb, a, c, rfl, hc, ?_⟩
 rcases h with h | ⟨g, off, ha, hg, hx⟩
 · exact .inl h
 · exact .inr ⟨g, off, ha, Nat.lt_of_lt_of_le hg b.size, fun i x hi => (b.cell (p := ⟨g, off + i, none⟩) hg).trans (hx i x hi)⟩
theorem bs_lit {w : World} {g : Nat} {cs : Array Value} {t : TypeId} {fr : Nat × Nat} {l : List Nat} (h : w.heap[g]? = some (.cells cs t fr)) (hc : cs.toList = bytesV l) (hb : ∀ b ∈ l, b < 256) : Bs w (.slice (some ⟨g, 0, none⟩) l.length l.length) l := by
 refine ⟨hb, _, _, rfl, Nat.le_refl _, .inr ⟨g, 0, rfl, lt_of_heap h, fun i x hi => ?_⟩⟩
 rw [Nat.zero_add, cell_of h, ← Array.getElem?_toList, hc]
 simp [bytesV, hi]
end Go.Proofs.YtlfbnfphocpgeaaGreatDoor.Byt
