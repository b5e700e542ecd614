/- Facts of lists: the least key first, over and over, is the sorted form. Nothing is claimed here. -/
import Derived.Test.YtjekannajnkejaaDoorTreeSort
namespace Go.Proofs.YtjekannajnkejaaDoor.Tre

theorem nodup_len {α : Type} [DecidableEq α] : ∀ (a b : List α), a.Nodup → (∀ x ∈ a, x ∈ b) → a.length ≤ b.length
  | [], _, _, _ => Nat.zero_le _
  | x :: a, b, h, hs => by
    rw [List.nodup_cons] at h
    have hx := hs x (by simp)
    have ih := nodup_len a (b.erase x) h.2 fun y hy => (List.mem_erase_of_ne (fun e => h.1 (by rw [← e]; exact hy))).2 (hs y (by simp [hy]))
    rw [List.length_erase_of_mem hx] at ih
    have : 0 < b.length := List.length_pos_of_mem hx
    rw [List.length_cons]
    omega
theorem nodup_perm {α : Type} [DecidableEq α] : ∀ (a b : List α), a.Nodup → (∀ x ∈ a, x ∈ b) → b.length ≤ a.length → a.Perm b
  | [], b, _, _, hl => by
    have : b = [] := List.length_eq_zero_iff.1 (Nat.le_zero.1 hl)
    rw [this]
  | x :: a, b, h, hs, hl => by
    rw [List.nodup_cons] at h
    have hx := hs x (by simp)
    have ih := nodup_perm a (b.erase x) h.2 (fun y hy => (List.mem_erase_of_ne (fun e => h.1 (by rw [← e]; exact hy))).2 (hs y (by simp [hy]))) (by
      rw [List.length_erase_of_mem hx]
      rw [List.length_cons] at hl
      omega)
    exact (ih.cons x).trans (List.perm_cons_erase hx).symm

/-- A key by its place. -/
abbrev kat (ks : List (List UInt8)) (i : Nat) : List UInt8 := ks.getD i []
/-- The places that are chosen: each below all chosen later, and below all that aren't chosen. -/
def Picked (ks : List (List UInt8)) (I : List Nat) : Prop :=
  I.Nodup ∧ (∀ i ∈ I, i < ks.length) ∧ I.Pairwise (fun i j => less (kat ks i) (kat ks j) = true) ∧ ∀ i ∈ I, ∀ j, j < ks.length → j ∉ I → less (kat ks i) (kat ks j) = true
/-- The best place among the first i that aren't chosen. -/
def Best (ks : List (List UInt8)) (I : List Nat) (i : Nat) (b : Int) : Prop :=
  (b = -1 ∧ ∀ j, j < i → j ∈ I) ∨ ∃ m : Nat, b = (m : Int) ∧ m < i ∧ m ∉ I ∧ ∀ j, j < i → j ∉ I → j = m ∨ less (kat ks m) (kat ks j) = true
theorem Picked.nil (ks : List (List UInt8)) : Picked ks [] := ⟨by simp, by simp, by simp, by simp⟩
theorem Best.nil (ks : List (List UInt8)) (I : List Nat) : Best ks I 0 (-1) := .inl ⟨rfl, fun _ h => absurd h (Nat.not_lt_zero _)⟩
theorem Best.gone {ks : List (List UInt8)} {I : List Nat} {i : Nat} {b : Int} (h : Best ks I i b) (hi : i ∈ I) : Best ks I (i + 1) b := by
  rcases h with ⟨hb, h⟩ | ⟨m, hb, hm, hn, h⟩
  · refine .inl ⟨hb, fun j hj => ?_⟩
    by_cases e : j = i
    · rw [e]; exact hi
    · exact h j (by omega)
  · refine .inr ⟨m, hb, by omega, hn, fun j hj hjn => ?_⟩
    by_cases e : j = i
    · exact absurd (by rw [e]; exact hi) hjn
    · exact h j (by omega) hjn
theorem Best.first {ks : List (List UInt8)} {I : List Nat} {i : Nat} {b : Int} (h : Best ks I i b) (hb : b < 0) (hi : i ∉ I) : Best ks I (i + 1) (i : Int) := by
  rcases h with ⟨_, h⟩ | ⟨m, e, _⟩
  · refine .inr ⟨i, rfl, by omega, hi, fun j hj hjn => ?_⟩
    by_cases e : j = i
    · exact .inl e
    · exact absurd (h j (by omega)) hjn
  · omega
theorem Best.better {ks : List (List UInt8)} {I : List Nat} {i m : Nat} (h : Best ks I i (m : Int)) (hi : i ∉ I) (hl : less (kat ks i) (kat ks m) = true) : Best ks I (i + 1) (i : Int) := by
  rcases h with ⟨e, _⟩ | ⟨m', e, hm, hn, h⟩
  · omega
  · have e' : m' = m := by omega
    subst e'
    refine .inr ⟨i, rfl, by omega, hi, fun j hj hjn => ?_⟩
    by_cases e : j = i
    · exact .inl e
    · rcases h j (by omega) hjn with rfl | h
      · exact .inr hl
      · exact .inr (less_trans hl h)
theorem kat_ne {ks : List (List UInt8)} (h : ks.Nodup) {i j : Nat} (hi : i < ks.length) (hj : j < ks.length) (hne : i ≠ j) : kat ks i ≠ kat ks j := by
  intro e
  unfold kat at e
  rw [List.getD_eq_getElem?_getD, List.getD_eq_getElem?_getD, List.getElem?_eq_getElem hi, List.getElem?_eq_getElem hj] at e
  have e' : ks[i] = ks[j] := e
  rcases Nat.lt_or_ge i j with hlt | hge
  · exact List.pairwise_iff_getElem.1 h i j hi hj hlt e'
  · exact List.pairwise_iff_getElem.1 h j i hj hi (by omega) e'.symm
theorem Best.more {ks : List (List UInt8)} {I : List Nat} {i m : Nat} (h : Best ks I i (m : Int)) (hn : ks.Nodup) (hil : i < ks.length) (hl : less (kat ks i) (kat ks m) = false) : Best ks I (i + 1) (m : Int) := by
  rcases h with ⟨e, _⟩ | ⟨m', e, hm, hmn, h⟩
  · omega
  · have e' : m' = m := by omega
    subst e'
    refine .inr ⟨m', rfl, by omega, hmn, fun j hj hjn => ?_⟩
    by_cases e : j = i
    · rw [e]
      exact .inr (less_total (kat_ne hn hil (by omega) (by omega)) hl)
    · exact h j (by omega) hjn
theorem Best.last {ks : List (List UInt8)} {I : List Nat} {b : Int} (h : Best ks I ks.length b) (hI : I.length < ks.length) : ∃ m : Nat, b = (m : Int) ∧ m < ks.length ∧ m ∉ I ∧ ∀ j, j < ks.length → j ∉ I → j = m ∨ less (kat ks m) (kat ks j) = true := by
  rcases h with ⟨_, h⟩ | h
  · exfalso
    have := nodup_len (List.range ks.length) I List.nodup_range fun x hx => h x (List.mem_range.1 hx)
    rw [List.length_range] at this
    omega
  · exact h
theorem Picked.push {ks : List (List UInt8)} {I : List Nat} {m : Nat} (h : Picked ks I) (hm : m < ks.length) (hn : m ∉ I) (hb : ∀ j, j < ks.length → j ∉ I → j = m ∨ less (kat ks m) (kat ks j) = true) : Picked ks (I ++ [m]) := by
  obtain ⟨h1, h2, h3, h4⟩ := h
  refine ⟨?_, ?_, ?_, ?_⟩
  · rw [List.nodup_append]
    refine ⟨h1, by simp, fun a ha b hb => ?_⟩
    rw [List.mem_singleton.1 hb]
    rintro rfl
    exact hn ha
  · intro i hi
    rcases List.mem_append.1 hi with hi | hi
    · exact h2 i hi
    · rw [List.mem_singleton.1 hi]
      exact hm
  · rw [List.pairwise_append]
    refine ⟨h3, by simp, fun a ha b hb => ?_⟩
    rw [List.mem_singleton.1 hb]
    exact h4 a ha m hm hn
  · intro i hi j hj hjn
    have hj1 : j ∉ I := fun h => hjn (List.mem_append.2 (.inl h))
    have hj2 : j ≠ m := fun h => hjn (List.mem_append.2 (.inr (by rw [h]; simp)))
    rcases List.mem_append.1 hi with hi | hi
    · exact h4 i hi j hj hj1
    · rw [List.mem_singleton.1 hi]
      exact (hb j hj hj1).resolve_left hj2
/-- The rows that are chosen. -/
def rowAt (ks : List (List UInt8)) (vs : List Val) (i : Nat) : Row := (kat ks i, (sorts vs).getD i none')
theorem zip_range (ks : List (List UInt8)) (vs : List Val) (h : ks.length = vs.length) : ks.zip (sorts vs) = (List.range ks.length).map (rowAt ks vs) := by
  apply List.ext_getElem
  · rw [List.length_zip, sorts_len, List.length_map, List.length_range]
    omega
  · intro i h1 h2
    rw [List.length_zip, sorts_len] at h1
    rw [List.getElem_zip, List.getElem_map, List.getElem_range]
    unfold rowAt kat
    rw [List.getD_eq_getElem?_getD, List.getD_eq_getElem?_getD, List.getElem?_eq_getElem (by omega), List.getElem?_eq_getElem (by rw [sorts_len]; omega)]
    rfl
theorem picked_all {ks : List (List UInt8)} {vs : List Val} {I : List Nat} (h : Picked ks I) (hl : ks.length = vs.length) (hn : ks.Nodup) (hI : I.length = ks.length) : rows ks vs = I.map (rowAt ks vs) := by
  refine rises_one (rows_rises hl hn) ?_ ?_
  · unfold Rises
    rw [List.pairwise_map]
    exact h.2.2.1
  · refine (sortP_perm _).trans ?_
    rw [zip_range ks vs hl]
    exact ((nodup_perm I (List.range ks.length) h.1 (fun x hx => List.mem_range.2 (h.2.1 x hx)) (by rw [List.length_range]; omega)).map _).symm
end Go.Proofs.YtjekannajnkejaaDoor.Tre
