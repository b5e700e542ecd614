/- What a table of plain numbers reads as fixes its cells. Nothing is claimed here. -/
import Derived.Test.YtehpjidajmoggaaGreatDoorKit
namespace Go.Proofs.YtehpjidajmoggaaGreatDoor.Kit
open Go.ChangeShapes Go.WideShapes Go.ChangeAt Go.RowKit

/-- A type of numbers, flags, arrays and structs of such, whose parts fill it. -/
def plainT (P : Program) : Nat → TypeId → Bool
  | 0, _ => false
  | f + 1, t => match P.underlying t with
    | some .bool => true
    | some (.int _) => true
    | some (.array n e) => plainT P f e && (n * P.cellsOf e == P.cellsOf t)
    | some (.struct fs) => fs.toList.all (fun x => plainT P f x.type) && (List.range (P.cellsOf t)).all (fun j => (List.range fs.size).any fun i => match fs[i]? with | some x => decide (x.offset ≤ j) && decide (j < x.offset + P.cellsOf x.type) | none => false)
    | _ => false

theorem chunk_at {cs ds : List Value} {o k j : Nat} (h : (cs.drop o).take k = (ds.drop o).take k) (h1 : o ≤ j) (h2 : j < o + k) : cs[j]? = ds[j]? := by
  have := congrArg (fun l => l[j - o]?) h
  simp only [List.getElem?_take, List.getElem?_drop] at this
  rw [if_pos (by omega), if_pos (by omega), show o + (j - o) = j by omega] at this
  exact this

theorem trod_inj {H : Type} {enc : TypeId × Value → H} {P : Program} {w : World} {base : Nat} {sp : Nat → Bool} {held : Bool} : ∀ (f : Nat) (t : TypeId) (a b : Nat) (cs ds : List Value) (d : DataW H) (p q : List MemPlace),
    plainT P f t = true → DataW.trod enc P w base sp held a t cs = some (d, p) → DataW.trod enc P w base sp held b t ds = some (d, q) → cs = ds
  | 0, _, _, _, _, _, _, _, _, h, _, _ => by simp [plainT] at h
  | f + 1, t, a, b, cs, ds, d, p, q, h, h1, h2 => by
    unfold plainT at h
    split at h
    · rename_i ht
      obtain ⟨x, rfl, e1⟩ := DataW.trod_bool ht h1
      obtain ⟨y, rfl, e2⟩ := DataW.trod_bool ht h2
      rw [Prod.mk.injEq] at e1 e2
      rw [e1.1] at e2
      have := e2.1
      simp at this
      rw [this]
    · rename_i k ht
      obtain ⟨x, rfl, e1, _⟩ := DataW.trod_int ht h1
      obtain ⟨y, rfl, e2, _⟩ := DataW.trod_int ht h2
      rw [Prod.mk.injEq] at e1 e2
      rw [e1.1] at e2
      have := e2.1
      simp at this
      rw [this]
    · rename_i n e ht
      rw [Bool.and_eq_true, beq_iff_eq] at h
      obtain ⟨xs, m, _, e1, l1, n1, k1⟩ := DataW.trod_array ht h1
      obtain ⟨ys, m', _, e2, l2, n2, k2⟩ := DataW.trod_array ht h2
      rw [Prod.mk.injEq] at e1 e2
      have he : xs.map (·.1) = ys.map (·.1) := by
        have := e1.1.symm.trans e2.1
        simpa using this
      refine List.ext_getElem? fun j => ?_
      by_cases hj : j < P.cellsOf t
      · have hk : 0 < P.cellsOf e := by
          rcases Nat.eq_zero_or_pos (P.cellsOf e) with h0 | h0
          · rw [h0] at h; omega
          · exact h0
        have hi : j / P.cellsOf e < n := by
          rw [Nat.div_lt_iff_lt_mul hk, h.2]; exact hj
        obtain ⟨x, hx⟩ : ∃ x, xs[j / P.cellsOf e]? = some x := ⟨_, List.getElem?_eq_getElem (by omega)⟩
        obtain ⟨y, hy⟩ : ∃ y, ys[j / P.cellsOf e]? = some y := ⟨_, List.getElem?_eq_getElem (by omega)⟩
        have r1 := (k1 _ hi).trans hx
        have r2 := (k2 _ hi).trans hy
        have hxy : x.1 = y.1 := by
          have := congrArg (fun l => l[j / P.cellsOf e]?) he
          simpa [hx, hy] using this
        obtain ⟨x1, x2⟩ := x
        obtain ⟨y1, y2⟩ := y
        obtain rfl : x1 = y1 := hxy
        have hc := trod_inj f e _ _ _ _ _ _ _ h.1 r1 r2
        have hm := Nat.div_add_mod j (P.cellsOf e)
        have hm2 := Nat.mod_lt j hk
        rw [Nat.mul_comm] at hm
        exact chunk_at hc (by omega) (by omega)
      · rw [List.getElem?_eq_none (by omega), List.getElem?_eq_none (by omega)]
    · rename_i fs ht
      rw [Bool.and_eq_true, List.all_eq_true, List.all_eq_true] at h
      obtain ⟨xs, m, _, e1, l1, n1, k1⟩ := DataW.trod_struct ht h1
      obtain ⟨ys, m', _, e2, l2, n2, k2⟩ := DataW.trod_struct ht h2
      rw [Prod.mk.injEq] at e1 e2
      have he : xs.map (·.1) = ys.map (·.1) := by
        have := e1.1.symm.trans e2.1
        simpa using this
      refine List.ext_getElem? fun j => ?_
      by_cases hj : j < P.cellsOf t
      · have hcov := h.2 j (List.mem_range.2 hj)
        rw [List.any_eq_true] at hcov
        obtain ⟨i, hi, hb⟩ := hcov
        split at hb
        · rename_i fd hfd
          rw [Bool.and_eq_true, decide_eq_true_eq, decide_eq_true_eq] at hb
          have hi' := List.mem_range.1 hi
          obtain ⟨x, hx⟩ : ∃ x, xs[i]? = some x := ⟨_, List.getElem?_eq_getElem (by omega)⟩
          obtain ⟨y, hy⟩ : ∃ y, ys[i]? = some y := ⟨_, List.getElem?_eq_getElem (by omega)⟩
          have r1 := (k1 i fd hfd).trans hx
          have r2 := (k2 i fd hfd).trans hy
          have hxy : x.1 = y.1 := by
            have := congrArg (fun l => l[i]?) he
            simpa [hx, hy] using this
          obtain ⟨x1, x2⟩ := x
          obtain ⟨y1, y2⟩ := y
          obtain rfl : x1 = y1 := hxy
          have hpl : plainT P f fd.type = true := h.1 fd (by
            have := Array.mem_of_getElem? hfd
            simpa using this)
          exact chunk_at (trod_inj f fd.type _ _ _ _ _ _ _ hpl r1 r2) hb.1 hb.2
        · cases hb
      · rw [List.getElem?_eq_none (by omega), List.getElem?_eq_none (by omega)]
    · cases h
end Go.Proofs.YtehpjidajmoggaaGreatDoor.Kit
