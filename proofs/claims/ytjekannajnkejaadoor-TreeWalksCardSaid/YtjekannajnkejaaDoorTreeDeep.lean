/- The contract of the document's own answer for layer 8 (package tabulariumref08): Deep. Nothing is claimed here. -/
import Derived.Test.YtjekannajnkejaaDoorTreeHold
namespace Go.Proofs.YtjekannajnkejaaDoor.Tre
open Go.RowKit Kit Txt
open Num (Dec zero)

theorem deeps_snoc : ∀ (a : List Val) (v : Val), deeps (a ++ [v]) = max (deeps a) (deep v)
  | [], v => by simp [deeps]
  | x :: a, v => by rw [List.cons_append, deeps, deeps, deeps_snoc a v, Nat.max_assoc]
theorem deeps_take {vs : List Val} {j : Nat} (h : j < vs.length) : deeps (vs.take (j + 1)) = max (deeps (vs.take j)) (deep vs[j]) := by
  rw [List.take_succ_eq_append_getElem h, deeps_snoc]
theorem deeps_take_le (vs : List Val) (j : Nat) : deeps (vs.take j) ≤ deeps vs := deeps_le.2 fun v hv => deeps_le.1 (Nat.le_refl _) v (List.mem_of_mem_take hv)

set_option maxRecDepth 100000 in
set_option maxHeartbeats 4000000 in
theorem rdeep_any : ∀ (v : Val) (w : World) (u : Value), deep v ≤ 1000000 → HoldV w u v → Calls Tryd.prog 13 #[u] w fun e w' => e = .returned (.int .i64 (deep v)) ∧ Below w.heap.size w w' := by
  refine ind1 fun v ih w u hd h => ?_
  obtain ⟨k, b, n, s, ks, vs⟩ := v
  obtain ⟨cs, rfl, hc⟩ := h
  rw [Hold] at hc
  obtain ⟨uk, a, c, rfl, hk, hcap, hmax, hv⟩ := hc
  show Calls Tryd.prog 13 #[.agg #[.int .i64 k, .bool b, .bool n.neg, .string (txt n.dig), .int .i64 n.exp, .string (txt s), uk, .slice a vs.length c]] w _
  rw [deep] at hd ⊢
  have hA := World.alloc_heap_new w (.cells #[.int .i64 k, .bool b, .bool n.neg, .string (txt n.dig), .int .i64 n.exp, .string (txt s), uk, .slice a vs.length c] 27)
  have bA : Below w.heap.size w (w.alloc (.cells #[.int .i64 k, .bool b, .bool n.neg, .string (txt n.dig), .int .i64 n.exp, .string (txt s), uk, .slice a vs.length c] 27)) := (Below.refl _ w).alloc (Nat.le_refl _) _
  by_cases h56 : k = 5 ∨ k = 6
  · rw [if_pos h56] at hd ⊢
    have ih' : ∀ x ∈ vs, ∀ (w : World) (u : Value), HoldV w u x → Calls Tryd.prog 13 #[u] w fun e w' => e = .returned (.int .i64 (deep x)) ∧ Below w.heap.size w w' := fun x hx w u h => ih x hx w u (Nat.le_trans (deeps_le.1 (Nat.le_refl _) x hx) (by omega)) h
    clear ih hk
    rcases h56 with rfl | rfl
    all_goals
      go_enter Tryd.func13, Tryd.ntmps13
      go_wp2_with fail
      go_loopw [3, 4] (fun x y wr => ∃ j m : Nat, j ≤ vs.length ∧ x = .int .i64 m ∧ y = .int .i64 j ∧ m = deeps (vs.take j) ∧ ∃ k, wr.heap[w.heap.size]? = some (.cells #[.int .i64 k, .bool b, .bool n.neg, .string (txt n.dig), .int .i64 n.exp, .string (txt s), uk, .slice a vs.length c] 27 (0, 0)) ∧ Below w.heap.size w wr) (fun _ y _ => vs.length - (intOf y).toNat)
      case atStart => exact ⟨0, 0, Nat.zero_le _, rfl, rfl, rfl, _, hA, bA⟩
      case round =>
        obtain ⟨j, m, hj, rfl, rfl, hm, k0, hB, bB⟩ := hrel
        obtain ⟨c0, c1, c2, c3, c4, c5, c6, c7⟩ := eight hB
        have hml := deeps_take_le vs j
        rw [← hm] at hml
        have hbl := lt_of_heap hB
        by_cases hlt : j < vs.length
        · have hlt' : (j : Int) < (vs.length : Int) := by omega
          rcases hv with rfl | ⟨g, off, rfl, hg, hx⟩
          · exact absurd hlt (Nat.not_lt_zero _)
          obtain ⟨cs8, h8, hh⟩ := Holds.at hx (List.getElem?_eq_getElem hlt)
          have hnext := deeps_take hlt
          have hn2 := deeps_take_le vs (j + 1)
          rw [← hm] at hnext
          have hcall := ih' vs[j] (List.getElem_mem hlt)
          generalize vs[j] = x at *
          have h8' := h8.below hg bB
          have hh' := Hold.below bB x hh
          clear hh h8
          obtain ⟨k', b', n', s', ks', vs'⟩ := x
          have hh2 := hh'
          rw [Hold] at hh2
          obtain ⟨uk', a', c', rfl, -, -, -, -⟩ := hh2
          obtain ⟨d0, d1, d2, d3, d4, d5, d6, d7⟩ := h8'.cells
          have hcall' := hcall wr (.agg #[.int .i64 k', .bool b', .bool n'.neg, .string (txt n'.dig), .int .i64 n'.exp, .string (txt s'), uk', .slice a' vs'.length c']) ⟨_, rfl, hh'⟩
          clear hh' h8' hcall ih'
          generalize deep ⟨k', b', n', s', ks', vs'⟩ = dx at *
          have hgl := Nat.lt_of_lt_of_le hg bB.size
          have wk : IntKind.i64.wrap ((j : Int) + 1) = (j : Int) + 1 := by simp only [IntKind.wrap, IntKind.signed, IntKind.bits]; simp; omega
          go_wp2_with fail
          refine hcall'.mono ?_
          rintro e w1 ⟨rfl, k1⟩
          have b1 := bB.trans (k1.mono bB.size)
          have hB1 := (k1.block _ hbl).trans hB
          by_cases hgt : m < dx
          · have hgt' : (m : Int) < (dx : Int) := by omega
            go_wp2_with fail
            go_roundw
            case rel => exact ⟨j + 1, dx, by omega, rfl, by go_num, by rw [hnext]; omega, _, hB1, b1⟩
            case measure => simp [intOf]; omega
          · have hgt' : decide (m < dx) = false := by simp; omega
            go_wp2_with fail
            go_roundw
            case rel => exact ⟨j + 1, m, by omega, by first | rfl | rw [hm], by go_num, by rw [hnext]; omega, _, hB1, b1⟩
            case measure => simp [intOf]; omega
        · obtain rfl : j = vs.length := by omega
          rw [List.take_length] at hm
          have wm : IntKind.i64.wrap ((m : Int) + 1) = (m : Int) + 1 := by simp only [IntKind.wrap, IntKind.signed, IntKind.bits]; simp; omega
          go_wp2_with fail
          go_ret
          exact ⟨by rw [← hm]; simp, bB⟩
  · rw [if_neg h56]
    have e5 : (k == 5) = false := by simp; omega
    have e6 : (k == 6) = false := by simp; omega
    go_enter Tryd.func13, Tryd.ntmps13
    go_wp2_with fail
    go_ret
    exact ⟨rfl, bA⟩
end Go.Proofs.YtjekannajnkejaaDoor.Tre
