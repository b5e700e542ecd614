/- The contract of tabulariumref03.Same, which many layers' laws call: whether two slices of bytes hold the same. Nothing is claimed here. -/
import Derived.Test.YtkbdahbnjklkoaaBytes
import Derived.Deep.QuietTactic
import Derived.BigQuiet
namespace Go.Proofs.Ytkbdahbnjklkoaa.Byt
open Go.RowKit Kit

set_option maxHeartbeats 1000000 in
theorem same_any {w : World} {v u : Value} {l m : List Nat} (hx : Bs w v l) (hy : Bs w u m) (h1 : l.length < 1000000000) (h2 : m.length < 1000000000) :
    Calls Try.prog 14 #[v, u] w fun e w' => e = .returned (.bool (decide (l = m))) ∧ Below w.heap.size w w' := by
  obtain ⟨lb, a, c, rfl, _, hx⟩ := hx
  obtain ⟨mb, b, d, rfl, _, hy⟩ := hy
  by_cases hl : l.length = m.length
  · rw [← hl]
    go_enter Try.func14, Try.ntmps14
    go_wp2_with fail
    go_loopw [5] (fun i wr => ∃ k : Nat, k ≤ l.length ∧ i = .int .i64 k ∧ (∀ j, j < k → l[j]? = m[j]?) ∧ Below w.heap.size w wr) (fun i _ => l.length - (intOf i).toNat)
    case atStart => exact ⟨0, Nat.zero_le _, rfl, fun j h => by omega, Below.refl _ _⟩
    case round =>
      obtain ⟨k, hk, rfl, heq, hbel⟩ := hrel
      by_cases hlt : k < l.length
      · have hlt2 : k < m.length := by omega
        obtain ⟨g, off, rfl, hg, hcx⟩ := hx.resolve_left (fun e => by rw [e] at hlt; simp at hlt)
        obtain ⟨g', off', rfl, hg', hcy⟩ := hy.resolve_left (fun e => by rw [e] at hlt2; simp at hlt2)
        have p1 := hcx k l[k] (List.getElem?_eq_getElem hlt)
        have q1 := hcy k m[k] (List.getElem?_eq_getElem hlt2)
        have e1 := (hbel.cell (p := ⟨g, off + k, none⟩) hg).trans p1
        have e3 := (hbel.cell (p := ⟨g', off' + k, none⟩) hg').trans q1
        clear p1 q1 hcx hcy
        have hlt' : (k : Int) < (l.length : Int) := by omega
        by_cases hab : l[k] = m[k]
        · rw [← hab] at e3
          go_wp2_with fail
          go_quiet (fail)
          go_wp2_with fail
          go_roundw
          case rel =>
            refine ⟨k + 1, by omega, by go_num, fun j hj => ?_, below_drewN hbel _⟩
            rcases Nat.lt_succ_iff_lt_or_eq.1 hj with h | rfl
            · exact heq j h
            · rw [List.getElem?_eq_getElem hlt, List.getElem?_eq_getElem hlt2, hab]
          case measure => simp [intOf]; omega
        · have hab' : ((l[k] : Int) == (m[k] : Int)) = false := by simp; omega
          have hne : l ≠ m := fun e => hab (by subst e; rfl)
          generalize l[k] = x at *
          generalize m[k] = y at *
          go_wp2_with fail
          go_quiet (fail)
          go_wp2_with fail
          go_ret
          refine ⟨?_, below_drewN hbel _⟩
          rw [decide_eq_false hne]
          rfl
      · obtain rfl : k = l.length := by omega
        go_wp2_with fail
        go_ret
        refine ⟨?_, hbel⟩
        have he : l = m := List.ext_getElem? fun j => by
          by_cases hj : j < l.length
          · exact heq j hj
          · rw [List.getElem?_eq_none (by omega), List.getElem?_eq_none (by omega)]
        rw [decide_eq_true he]
        rfl
  · have hl' : ((l.length : Int) == m.length) = false := by simp; omega
    go_enter Try.func14, Try.ntmps14
    go_wp2_with fail
    go_ret
    exact ⟨by rw [decide_eq_false (fun e => hl (congrArg List.length e))]; rfl, Below.refl _ _⟩
end Go.Proofs.Ytkbdahbnjklkoaa.Byt
