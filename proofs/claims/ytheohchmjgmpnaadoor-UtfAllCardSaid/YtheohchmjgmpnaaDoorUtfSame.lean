/- The contract of the laws' own helper same: whether two slices of scalars hold the same ones. Nothing is claimed here. -/
import Derived.Test.YtheohchmjgmpnaaDoorUtfRows
import Derived.Laws.StructEq
namespace Go.Proofs.YtheohchmjgmpnaaDoor.Utf
open Go.RowKit Kit Go.Shelf

/-- The slice v holds the scalars xs. -/
def Rd (w : World) (v : Value) (xs : List (Nat × Nat)) : Prop :=
  ∃ a c, v = .slice a xs.length c ∧ (xs = [] ∨ ∃ g off, a = some ⟨g, off, none⟩ ∧ g < w.heap.size ∧ ∀ i x, xs[i]? = some x → w.cell? ⟨g, off + i * 2, none⟩ = some (.int .i64 x.1) ∧ w.cell? ⟨g, off + i * 2 + 1, none⟩ = some (.int .i64 x.2))

theorem Rd.below {w w' : World} {v : Value} {xs : List (Nat × Nat)} (h : Rd w v xs) (b : Below w.heap.size w w') : Rd w' v xs := by
  obtain ⟨a, c, rfl, h⟩ := h
  refine ⟨a, c, rfl, ?_⟩
  rcases h with h | ⟨g, off, ha, hg, hc⟩
  · exact .inl h
  · refine .inr ⟨g, off, ha, Nat.lt_of_lt_of_le hg b.size, fun i x hx => ?_⟩
    obtain ⟨h1, h2⟩ := hc i x hx
    exact ⟨(b.cell (p := ⟨g, off + i * 2, none⟩) hg).trans h1, (b.cell (p := ⟨g, off + i * 2 + 1, none⟩) hg).trans h2⟩

theorem cellsL_at : ∀ (xs : List (Nat × Nat)) (i : Nat) (x : Nat × Nat), xs[i]? = some x → (cellsL xs)[i * 2]? = some (.int .i64 x.1) ∧ (cellsL xs)[i * 2 + 1]? = some (.int .i64 x.2)
  | [], i, x, h => by simp at h
  | y :: xs, 0, x, h => by
    simp only [List.getElem?_cons_zero, Option.some.injEq] at h
    subst h
    simp [cellsL]
  | y :: xs, i + 1, x, h => by
    rw [List.getElem?_cons_succ] at h
    have := cellsL_at xs i x h
    rw [show (i + 1) * 2 = i * 2 + 2 by omega]
    exact this

theorem rd_of_own {w : World} {base : Nat} {v : Value} {xs : List (Nat × Nat)} (h : w.ownsRow base 31 2 v xs.length (cellsL xs)) : Rd w v xs := by
  rcases h.2 with ⟨rfl, h0⟩ | ⟨g, cap, cur, rfl, _, hg, _, _, _, ht⟩
  · have : xs = [] := List.length_eq_zero_iff.1 h0
    subst this
    exact ⟨_, _, rfl, .inl rfl⟩
  · refine ⟨_, _, rfl, .inr ⟨g, 0, rfl, lt_of_heap hg, fun i x hx => ?_⟩⟩
    obtain ⟨h1, h2⟩ := cellsL_at xs i x hx
    rw [← ht] at h1 h2
    have k1 := (List.getElem?_eq_some_iff.1 h1)
    have k2 := (List.getElem?_eq_some_iff.1 h2)
    rw [cell_of hg, cell_of hg, Nat.zero_add]
    rw [List.getElem?_take] at h1 h2
    split at h1
    · split at h2
      · exact ⟨by simpa using h1, by simpa using h2⟩
      · cases h2
    · cases h1

theorem eqS (a b c d : Int) (w : World) : (Op.equalIn 10000 31 (.agg #[.int .i64 a, .int .i64 b]) (.agg #[.int .i64 c, .int .i64 d])).run Tryd.prog w = .ok (a == c && b == d) w := by
  have u3 := Tryd.underlying3
  have a3 := Tryd.isAgg3
  have z3 := Tryd.sizeOf3
  have hS : Tryd.prog.underlying 31 = some (.struct (Tryd.prog.fieldsOf 31)) := by kernel_rfl
  rw [show (10000 : Nat) = 9999 + 1 from rfl, run_equalIn_agg w 9999 31 _ _ hS (by kernel_rfl)]
  simp only [Program.fieldsOf, Tryd.underlying31]
  go_simp
  by_cases h1 : a = c <;> by_cases h2 : b = d <;> simp [h1, h2]

set_option maxHeartbeats 1000000 in
theorem same_any {w : World} {v u : Value} {xs ys : List (Nat × Nat)} (hx : Rd w v xs) (hy : Rd w u ys) (h1 : xs.length < 1000000000) (h2 : ys.length < 1000000000) :
    Calls Tryd.prog 12 #[v, u] w fun e w' => e = .returned (.bool (decide (xs = ys))) ∧ Below w.heap.size w w' := by
  obtain ⟨a, c, rfl, hx⟩ := hx
  obtain ⟨b, d, rfl, hy⟩ := hy
  by_cases hl : xs.length = ys.length
  · rw [← hl]
    have hll : (ys.length : Int) = xs.length := by omega
    go_enter Tryd.func12, Tryd.ntmps12
    go_wp2_with fail
    go_loopw [13] (fun i wr => ∃ k : Nat, k ≤ xs.length ∧ i = .int .i64 k ∧ (∀ j, j < k → xs[j]? = ys[j]?) ∧ Below w.heap.size w wr) (fun i _ => xs.length - (intOf i).toNat)
    case atStart => exact ⟨0, Nat.zero_le _, rfl, fun j h => by omega, Below.refl _ _⟩
    case round =>
      obtain ⟨k, hk, rfl, heq, hbel⟩ := hrel
      by_cases hlt : k < xs.length
      · have hlt2 : k < ys.length := by omega
        obtain ⟨g, off, rfl, hg, hcx⟩ := hx.resolve_left (fun e => by rw [e] at hlt; simp at hlt)
        obtain ⟨g', off', rfl, hg', hcy⟩ := hy.resolve_left (fun e => by rw [e] at hlt2; simp at hlt2)
        obtain ⟨p1, p2⟩ := hcx k xs[k] (List.getElem?_eq_getElem hlt)
        obtain ⟨q1, q2⟩ := hcy k ys[k] (List.getElem?_eq_getElem hlt2)
        have e1 := (hbel.cell (p := ⟨g, off + k * 2, none⟩) hg).trans p1
        have e2 := (hbel.cell (p := ⟨g, off + k * 2 + 1, none⟩) hg).trans p2
        have e3 := (hbel.cell (p := ⟨g', off' + k * 2, none⟩) hg').trans q1
        have e4 := (hbel.cell (p := ⟨g', off' + k * 2 + 1, none⟩) hg').trans q2
        clear p1 p2 q1 q2 hcx hcy
        have hlt' : (k : Int) < (xs.length : Int) := by omega
        by_cases hab : xs[k] = ys[k]
        · have hES : ∀ wx, (Op.equalIn 10000 31 (.agg #[.int .i64 xs[k].1, .int .i64 xs[k].2]) (.agg #[.int .i64 ys[k].1, .int .i64 ys[k].2])).run Tryd.prog wx = .ok true wx := fun wx => by rw [eqS, hab]; simp
          go_wp2_with fail
          go_quiet (fail)
          go_wp2_with fail
          go_roundw
          case rel =>
            refine ⟨k + 1, by omega, by go_num, fun j hj => ?_, below_drewN hbel _⟩
            rcases Nat.lt_succ_iff_lt_or_eq.1 hj with h | rfl
            · exact heq j h
            · rw [List.getElem?_eq_getElem hlt, List.getElem?_eq_getElem hlt2, hab]
          case measure => simp [intOf]; omega
        · have hES : ∀ wx, (Op.equalIn 10000 31 (.agg #[.int .i64 xs[k].1, .int .i64 xs[k].2]) (.agg #[.int .i64 ys[k].1, .int .i64 ys[k].2])).run Tryd.prog wx = .ok false wx := fun wx => by
            rw [eqS]
            have : ¬ (xs[k].1 = ys[k].1 ∧ xs[k].2 = ys[k].2) := fun h => hab (Prod.ext h.1 h.2)
            congr 1
            simp only [Bool.and_eq_false_iff, beq_eq_false_iff_ne, ne_eq]
            omega
          go_wp2_with fail
          go_quiet (fail)
          go_wp2_with fail
          go_ret
          refine ⟨?_, below_drewN hbel _⟩
          have hne : xs ≠ ys := fun e => hab (by subst e; rfl)
          rw [decide_eq_false hne]
          rfl
      · obtain rfl : k = xs.length := by omega
        go_wp2_with fail
        go_ret
        refine ⟨?_, hbel⟩
        have he : xs = ys := List.ext_getElem? fun j => by
          by_cases hj : j < xs.length
          · exact heq j hj
          · rw [List.getElem?_eq_none (by omega), List.getElem?_eq_none (by omega)]
        rw [decide_eq_true he]
        rfl
  · have hl' : ((xs.length : Int) == ys.length) = false := by simp; omega
    go_enter Tryd.func12, Tryd.ntmps12
    go_wp2_with fail
    go_ret
    exact ⟨by rw [decide_eq_false (fun e => hl (congrArg List.length e))]; rfl, Below.refl _ _⟩
end Go.Proofs.YtheohchmjgmpnaaDoor.Utf
