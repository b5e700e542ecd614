/- Facts of values without a program: how deep one is, which is right, its sorted form, what a key tells, all that is in it, how much of one statements take. Nothing is claimed here. -/
import Derived.Test.YtehpjidajmoggaaGreatDoorNumSpec
import Derived.Test.YtehpjidajmoggaaGreatDoorUtfSpec
namespace Go.Proofs.YtehpjidajmoggaaGreatDoor.Tre
open Num (Dec zero)

/-- A value: its kind, whether it holds, its number, its text, its keys, its kids. -/
inductive Val where
  | mk (kind : Int) (is : Bool) (num : Dec) (str : List UInt8) (keys : List (List UInt8)) (kids : List Val)
def Val.kind : Val → Int | ⟨k, _, _, _, _, _⟩ => k
def Val.is : Val → Bool | ⟨_, i, _, _, _, _⟩ => i
def Val.num : Val → Dec | ⟨_, _, n, _, _, _⟩ => n
def Val.str : Val → List UInt8 | ⟨_, _, _, s, _, _⟩ => s
def Val.keys : Val → List (List UInt8) | ⟨_, _, _, _, ks, _⟩ => ks
def Val.kids : Val → List Val | ⟨_, _, _, _, _, vs⟩ => vs
def none' : Val := ⟨0, false, zero, [], [], []⟩

mutual
def deep : Val → Nat
  | ⟨k, _, _, _, _, vs⟩ => (if k = 5 ∨ k = 6 then deeps vs else 0) + 1
def deeps : List Val → Nat
  | [] => 0
  | v :: r => max (deep v) (deeps r)
end
/-- Right, but for how deep it is, and its kids. -/
def Own (v : Val) : Prop :=
  1 ≤ v.kind ∧ v.kind ≤ 6 ∧ (v.kind ≠ 2 → v.is = false) ∧ (v.kind ≠ 3 → v.num = zero) ∧ (v.kind ≠ 4 → v.str = []) ∧ (v.kind < 5 → v.kids = []) ∧ (v.kind ≠ 6 → v.keys = []) ∧
    Num.Right v.num ∧ Utf.bad v.str = none ∧ (v.kind = 6 → v.keys.length = v.kids.length) ∧ (∀ k ∈ v.keys, Utf.bad k = none) ∧ v.keys.Nodup
mutual
def Whole : Val → Prop
  | ⟨k, i, n, s, ks, vs⟩ => Own ⟨k, i, n, s, ks, vs⟩ ∧ Wholes vs
def Wholes : List Val → Prop
  | [] => True
  | v :: r => Whole v ∧ Wholes r
end
def Right (v : Val) : Prop := deep v ≤ 64 ∧ Whole v

theorem deeps_le {vs : List Val} {d : Nat} : deeps vs ≤ d ↔ ∀ v ∈ vs, deep v ≤ d := by
  induction vs with
  | nil => simp [deeps]
  | cons v r ih =>
    rw [deeps, Nat.max_le, ih]
    simp
theorem wholes_iff {vs : List Val} : Wholes vs ↔ ∀ v ∈ vs, Whole v := by
  induction vs with
  | nil => simp [Wholes]
  | cons v r ih =>
    rw [Wholes, ih]
    simp
theorem whole_iff {v : Val} : Whole v ↔ Own v ∧ ∀ x ∈ v.kids, Whole x := by
  obtain ⟨k, i, n, s, ks, vs⟩ := v
  rw [Whole, wholes_iff]
  rfl
theorem deep_eq (v : Val) : deep v = (if v.kind = 5 ∨ v.kind = 6 then deeps v.kids else 0) + 1 := by
  obtain ⟨k, i, n, s, ks, vs⟩ := v
  rw [deep]
  rfl

/-- Texts by their bytes. -/
abbrev less := Op.bytesLess
theorem less_self (a : List UInt8) : less a a = false := by
  induction a with
  | nil => rfl
  | cons c l ih =>
    unfold less at ih ⊢
    unfold Op.bytesLess
    rw [ih]
    simp
theorem less_trans : ∀ {a b c : List UInt8}, less a b = true → less b c = true → less a c = true
  | [], [], _, h, _ => by simp [less, Op.bytesLess] at h
  | _ :: _, [], _, h, _ => by simp [less, Op.bytesLess] at h
  | _, _ :: _, [], _, h => by simp [less, Op.bytesLess] at h
  | [], _ :: _, _ :: _, _, _ => rfl
  | x :: a, y :: b, z :: c, h1, h2 => by
    have ih := @less_trans a b c
    unfold less at *
    simp only [Op.bytesLess, Bool.or_eq_true, Bool.and_eq_true, decide_eq_true_eq, beq_iff_eq] at *
    rcases h1 with h1 | ⟨rfl, h1⟩
    · rcases h2 with h2 | ⟨rfl, h2⟩
      · exact .inl (UInt8.lt_trans h1 h2)
      · exact .inl h1
    · rcases h2 with h2 | ⟨rfl, h2⟩
      · exact .inl h2
      · exact .inr ⟨rfl, ih h1 h2⟩
theorem less_total : ∀ {a b : List UInt8}, a ≠ b → less a b = false → less b a = true
  | [], [], h, _ => absurd rfl h
  | [], _ :: _, _, h => by simp [less, Op.bytesLess] at h
  | _ :: _, [], _, _ => rfl
  | x :: a, y :: b, h, h1 => by
    have ih := @less_total a b
    unfold less at *
    simp only [Op.bytesLess, Bool.or_eq_true, Bool.or_eq_false_iff, Bool.and_eq_false_iff, Bool.and_eq_true, decide_eq_true_eq, decide_eq_false_iff_not, beq_iff_eq, beq_eq_false_iff_ne] at *
    by_cases e : x = y
    · subst e
      refine .inr ⟨rfl, ih (fun e => h (by rw [e])) ?_⟩
      rcases h1.2 with h2 | h2
      · exact absurd rfl h2
      · exact h2
    · refine .inl ?_
      have h3 := h1.1
      rw [UInt8.lt_iff_toNat_lt] at h3 ⊢
      have : x.toNat ≠ y.toNat := fun e' => e (UInt8.toNat_inj.1 e')
      omega

/-- Pairs of a key and its kid, by keys. -/
def ins (p : List UInt8 × Val) : List (List UInt8 × Val) → List (List UInt8 × Val)
  | [] => [p]
  | q :: r => if less p.1 q.1 then p :: q :: r else q :: ins p r
def sortP (l : List (List UInt8 × Val)) : List (List UInt8 × Val) := l.foldr ins []
mutual
def sort : Val → Val
  | ⟨k, i, n, s, ks, vs⟩ => if k = 6 then ⟨k, i, n, s, (sortP (ks.zip (sorts vs))).map (·.1), (sortP (ks.zip (sorts vs))).map (·.2)⟩ else ⟨k, i, n, s, [], sorts vs⟩
def sorts : List Val → List Val
  | [] => []
  | v :: r => sort v :: sorts r
end
theorem sorts_map (vs : List Val) : sorts vs = vs.map sort := by
  induction vs with
  | nil => rfl
  | cons v r ih => rw [sorts, ih, List.map_cons]

/-- The first kid with that key. -/
def get (v : Val) (key : List UInt8) : Option Val := if v.kind = 6 then (match v.keys.findIdx? (· = key) with | some i => v.kids[i]? | none => none) else none
mutual
/-- A value, and all in it, each with how deep it lies. -/
def walk (d : Nat) : Val → List (Nat × Val)
  | ⟨k, i, n, s, ks, vs⟩ => (d, ⟨k, i, n, s, ks, vs⟩) :: walks (d + 1) vs
def walks (d : Nat) : List Val → List (Nat × Val)
  | [] => []
  | v :: r => walk d v ++ walks d r
end

/-- How much more a value may be. -/
def keysRoom : List (List UInt8) → Int → Int
  | [], z => z
  | k :: r, z => if z < 0 then z else if 2000 < k.length then -1 else keysRoom r (z - ((k.length / 50 : Nat) : Int))
mutual
def room (d : Nat) : Val → Int → Int
  | ⟨_, _, n, s, ks, vs⟩, z => if 70 < d ∨ 2000 < s.length ∨ 1200 < n.dig.length then -1 else kidsRoom (d + 1) vs (keysRoom ks (z - 1 - ks.length - (((s.length + n.dig.length) / 50 : Nat) : Int)))
def kidsRoom (d : Nat) : List Val → Int → Int
  | [], z => z
  | v :: r, z => if z < 0 then z else kidsRoom d r (room d v z)
end
def Great (v : Val) : Prop := room 1 v 400 < 0
end Go.Proofs.YtehpjidajmoggaaGreatDoor.Tre
