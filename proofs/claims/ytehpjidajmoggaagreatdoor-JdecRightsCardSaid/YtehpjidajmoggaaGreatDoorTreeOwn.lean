/- The contract of the document's own answer for layer 8 (package tabulariumref08): Deep. The contract of the document's own answer for layer 8 (package tabulariumref08): whole, over that of own. The contract of the document's own answer for layer 8 (package tabulariumref08): Right, over that of own. The contract of the document's own answer for layer 8 (package tabulariumref08): own. Nothing is claimed here. -/
import Derived.Test.YtehpjidajmoggaaGreatDoorTreeHold
import Derived.Lib.Hide
import Derived.Test.YtehpjidajmoggaaGreatDoorNumRight
import Derived.Test.YtehpjidajmoggaaGreatDoorUtfRefB
import Derived.BigQuiet
import Derived.Deep.Cut
import Derived.Deep.CutRange
namespace Go.Proofs.YtehpjidajmoggaaGreatDoor.Tre
open Go.RowKit Kit Txt
open Num (Dec zero)

theorem deeps_snoc : ∀ (a : List Val) (v : Val), deeps (a ++ [v]) = max (deeps a) (deep v)
  | [], v => by simp [deeps]
  | x :: a, v => by rw [List.cons_append, deeps, deeps, deeps_snoc a v, Nat.max_assoc]
theorem deeps_take {vs : List Val} {j : Nat} (h : j < vs.length) : deeps (vs.take (j + 1)) = max (deeps (vs.take j)) (deep vs[j]) := by
  rw [List.take_succ_eq_append_getElem h, deeps_snoc]
theorem deeps_take_le (vs : List Val) (j : Nat) : deeps (vs.take j) ≤ deeps vs := deeps_le.2 fun v hv => deeps_le.1 (Nat.le_refl _) v (List.mem_of_mem_take hv)

set_option maxRecDepth 100000 in
set_option maxHeartbeats 4000000 in
theorem rdeep_any : ∀ (v : Val) (w : World) (u : Value), deep v ≤ 1000000 → HoldV w u v → Calls Tryz.prog 10 #[u] w fun e w' => e = .returned (.int .i64 (deep v)) ∧ Below w.heap.size w w' := by
  refine ind1 fun v ih w u hd h => ?_
  obtain ⟨k, b, n, s, ks, vs⟩ := v
  obtain ⟨cs, rfl, hc⟩ := h
  rw [Hold] at hc
  obtain ⟨uk, a, c, rfl, hk, hcap, hmax, hv⟩ := hc
  show Calls Tryz.prog 10 #[.agg #[.int .i64 k, .bool b, .bool n.neg, .string (txt n.dig), .int .i64 n.exp, .string (txt s), uk, .slice a vs.length c]] w _
  rw [deep] at hd ⊢
  have hA := World.alloc_heap_new w (.cells #[.int .i64 k, .bool b, .bool n.neg, .string (txt n.dig), .int .i64 n.exp, .string (txt s), uk, .slice a vs.length c] 28)
  have bA : Below w.heap.size w (w.alloc (.cells #[.int .i64 k, .bool b, .bool n.neg, .string (txt n.dig), .int .i64 n.exp, .string (txt s), uk, .slice a vs.length c] 28)) := (Below.refl _ w).alloc (Nat.le_refl _) _
  by_cases h56 : k = 5 ∨ k = 6
  · rw [if_pos h56] at hd ⊢
    have ih' : ∀ x ∈ vs, ∀ (w : World) (u : Value), HoldV w u x → Calls Tryz.prog 10 #[u] w fun e w' => e = .returned (.int .i64 (deep x)) ∧ Below w.heap.size w w' := fun x hx w u h => ih x hx w u (Nat.le_trans (deeps_le.1 (Nat.le_refl _) x hx) (by omega)) h
    clear ih hk
    rcases h56 with rfl | rfl
    all_goals
      go_enter Tryz.func10, Tryz.ntmps10
      go_wp2_with fail
      go_loopw [3, 4] (fun x y wr => ∃ j m : Nat, j ≤ vs.length ∧ x = .int .i64 m ∧ y = .int .i64 j ∧ m = deeps (vs.take j) ∧ ∃ k, wr.heap[w.heap.size]? = some (.cells #[.int .i64 k, .bool b, .bool n.neg, .string (txt n.dig), .int .i64 n.exp, .string (txt s), uk, .slice a vs.length c] 28 (0, 0)) ∧ Below w.heap.size w wr) (fun _ y _ => vs.length - (intOf y).toNat)
      case atStart => exact ⟨0, 0, Nat.zero_le _, rfl, rfl, rfl, _, hA, bA⟩
      case round =>
        obtain ⟨j, m, hj, rfl, rfl, hm, k0, hB, bB⟩ := hrel
        obtain ⟨c0, c1, c2, c3, c4, c5, c6, c7⟩ := eight hB
        have hml := deeps_take_le vs j
        rw [← hm] at hml
        have hbl := lt_of_heap hB
        by_cases hlt : j < vs.length
        · have hlt' : (j : Int) < (vs.length : Int) := by omega
          rcases hv with rfl | ⟨g, off, rfl, hg, hx⟩
          · exact absurd hlt (Nat.not_lt_zero _)
          obtain ⟨cs8, h8, hh⟩ := Holds.at hx (List.getElem?_eq_getElem hlt)
          have hnext := deeps_take hlt
          have hn2 := deeps_take_le vs (j + 1)
          rw [← hm] at hnext
          have hcall := ih' vs[j] (List.getElem_mem hlt)
          generalize vs[j] = x at *
          have h8' := h8.below hg bB
          have hh' := Hold.below bB x hh
          clear hh h8
          obtain ⟨k', b', n', s', ks', vs'⟩ := x
          have hh2 := hh'
          rw [Hold] at hh2
          obtain ⟨uk', a', c', rfl, -, -, -, -⟩ := hh2
          obtain ⟨d0, d1, d2, d3, d4, d5, d6, d7⟩ := h8'.cells
          have hcall' := hcall wr (.agg #[.int .i64 k', .bool b', .bool n'.neg, .string (txt n'.dig), .int .i64 n'.exp, .string (txt s'), uk', .slice a' vs'.length c']) ⟨_, rfl, hh'⟩
          clear hh' h8' hcall ih'
          generalize deep ⟨k', b', n', s', ks', vs'⟩ = dx at *
          have hgl := Nat.lt_of_lt_of_le hg bB.size
          have wk : IntKind.i64.wrap ((j : Int) + 1) = (j : Int) + 1 := by simp only [IntKind.wrap, IntKind.signed, IntKind.bits]; simp; omega
          go_wp2_with fail
          refine hcall'.mono ?_
          rintro e w1 ⟨rfl, k1⟩
          have b1 := bB.trans (k1.mono bB.size)
          have hB1 := (k1.block _ hbl).trans hB
          by_cases hgt : m < dx
          · have hgt' : (m : Int) < (dx : Int) := by omega
            go_wp2_with fail
            go_roundw
            case rel => exact ⟨j + 1, dx, by omega, rfl, by go_num, by rw [hnext]; omega, _, hB1, b1⟩
            case measure => simp [intOf]; omega
          · have hgt' : decide (m < dx) = false := by simp; omega
            go_wp2_with fail
            go_roundw
            case rel => exact ⟨j + 1, m, by omega, by first | rfl | rw [hm], by go_num, by rw [hnext]; omega, _, hB1, b1⟩
            case measure => simp [intOf]; omega
        · obtain rfl : j = vs.length := by omega
          rw [List.take_length] at hm
          have wm : IntKind.i64.wrap ((m : Int) + 1) = (m : Int) + 1 := by simp only [IntKind.wrap, IntKind.signed, IntKind.bits]; simp; omega
          go_wp2_with fail
          go_ret
          exact ⟨by rw [← hm]; simp, bB⟩
  · rw [if_neg h56]
    have e5 : (k == 5) = false := by simp; omega
    have e6 : (k == 6) = false := by simp; omega
    go_enter Tryz.func10, Tryz.ntmps10
    go_wp2_with fail
    go_ret
    exact ⟨rfl, bA⟩
end Go.Proofs.YtehpjidajmoggaaGreatDoor.Tre
namespace Go.Proofs.YtehpjidajmoggaaGreatDoor.Tre
open Go.RowKit Kit Txt
open Num (Dec zero)

set_option maxRecDepth 100000 in
set_option maxHeartbeats 4000000 in
/-- F: how much a value may be, for own; its kids too. -/
theorem rwhole_of {F : Val → Prop} (hF : ∀ v, F v → ∀ x ∈ v.kids, F x) (hown : ∀ (v : Val) (w : World) (u : Value), F v → HoldV w u v → Calls Tryz.prog 30 #[u] w fun e w' => (∃ r : Bool, e = .returned (.bool r) ∧ (r = true ↔ Own v)) ∧ Below w.heap.size w w') :
    ∀ (v : Val) (w : World) (u : Value), F v → HoldV w u v → Calls Tryz.prog 17 #[u] w fun e w' => (∃ r : Bool, e = .returned (.bool r) ∧ (r = true ↔ Whole v)) ∧ Below w.heap.size w w' := by
  refine ind1 fun v ih w u hf h => ?_
  have hkF := hF v hf
  have ho := fun wx (hb : Below w.heap.size w wx) => hown v wx u hf (h.below hb)
  clear hown hF
  obtain ⟨k, b, n, s, ks, vs⟩ := v
  have hwi := whole_iff (v := ⟨k, b, n, s, ks, vs⟩)
  obtain ⟨cs, rfl, hc⟩ := h
  rw [Hold] at hc
  obtain ⟨uk, a, c, rfl, hk, hcap, hmax, hv⟩ := hc
  have ho' : ∀ wx, Below w.heap.size w wx → Calls Tryz.prog 30 #[.agg #[.int .i64 k, .bool b, .bool n.neg, .string (txt n.dig), .int .i64 n.exp, .string (txt s), uk, .slice a vs.length c]] wx fun e w' => (∃ r : Bool, e = .returned (.bool r) ∧ (r = true ↔ Own ⟨k, b, n, s, ks, vs⟩)) ∧ Below wx.heap.size wx w' := ho
  show Calls Tryz.prog 17 #[.agg #[.int .i64 k, .bool b, .bool n.neg, .string (txt n.dig), .int .i64 n.exp, .string (txt s), uk, .slice a vs.length c]] w _
  have hA := World.alloc_heap_new w (.cells #[.int .i64 k, .bool b, .bool n.neg, .string (txt n.dig), .int .i64 n.exp, .string (txt s), uk, .slice a vs.length c] 28)
  have bA : Below w.heap.size w (w.alloc (.cells #[.int .i64 k, .bool b, .bool n.neg, .string (txt n.dig), .int .i64 n.exp, .string (txt s), uk, .slice a vs.length c] 28)) := (Below.refl _ w).alloc (Nat.le_refl _) _
  have ih' : ∀ x ∈ vs, ∀ (w : World) (u : Value), HoldV w u x → Calls Tryz.prog 17 #[u] w fun e w' => (∃ r : Bool, e = .returned (.bool r) ∧ (r = true ↔ Whole x)) ∧ Below w.heap.size w w' := fun x hx w u h => ih x hx w u (hkF x hx) h
  have HW := Lib.hid hwi
  clear ih hk ho hkF hwi hf
  go_enter Tryz.func17, Tryz.ntmps17
  go_wp2_with fail
  refine (ho' _ bA).mono ?_
  rintro e w1 ⟨⟨r, rfl, hr⟩, k1⟩
  have b1 := bA.trans (k1.mono bA.size)
  have hA1 := (k1.block _ (lt_of_heap hA)).trans hA
  clear hA bA ho' k1
  cases r with
  | false =>
    have hno : ¬ Whole ⟨k, b, n, s, ks, vs⟩ := fun e => by have := hr.2 (HW.out.1 e).1; cases this
    go_wp2_with fail
    go_ret
    exact ⟨⟨false, rfl, by simp; exact hno⟩, b1⟩
  | true =>
    have HO := Lib.hid (hr.1 rfl)
    clear hr
    go_wp2_with fail
    go_loopw [3] (fun y wr => ∃ j : Nat, j ≤ vs.length ∧ y = .int .i64 j ∧ (∀ x ∈ vs.take j, Whole x) ∧ wr.heap[w.heap.size]? = some (.cells #[.int .i64 k, .bool b, .bool n.neg, .string (txt n.dig), .int .i64 n.exp, .string (txt s), uk, .slice a vs.length c] 28 (0, 0)) ∧ Below w.heap.size w wr) (fun y _ => vs.length - (intOf y).toNat)
    case atStart => exact ⟨0, Nat.zero_le _, rfl, fun x hx => absurd hx (by simp), hA1, b1⟩
    case round =>
      obtain ⟨j, hj, rfl, hall, hB, bB⟩ := hrel
      obtain ⟨c0, c1, c2, c3, c4, c5, c6, c7⟩ := eight hB
      have hbl := lt_of_heap hB
      have HL := Lib.hid hall
      clear hall
      by_cases hlt : j < vs.length
      · have hlt' : (j : Int) < (vs.length : Int) := by omega
        rcases hv with rfl | ⟨g, off, rfl, hg, hx⟩
        · exact absurd hlt (Nat.not_lt_zero _)
        obtain ⟨cs8, h8, hh⟩ := Holds.at hx (List.getElem?_eq_getElem hlt)
        have hcall := ih' vs[j] (List.getElem_mem hlt)
        have HM := Lib.hid (show vs[j] ∈ vs from List.getElem_mem hlt)
        have HT := Lib.hid (List.take_succ_eq_append_getElem hlt)
        generalize vs[j] = x at *
        have h8' := h8.below hg bB
        have hh' := Hold.below bB x hh
        clear hh h8
        have hh2 := hh'
        obtain ⟨k', b', n', s', ks', vs'⟩ := x
        rw [Hold] at hh2
        obtain ⟨uk', a', c', rfl, -, -, -, -⟩ := hh2
        obtain ⟨d0, d1, d2, d3, d4, d5, d6, d7⟩ := h8'.cells
        have hcall' := hcall wr (.agg #[.int .i64 k', .bool b', .bool n'.neg, .string (txt n'.dig), .int .i64 n'.exp, .string (txt s'), uk', .slice a' vs'.length c']) ⟨_, rfl, hh'⟩
        clear hh' h8' hcall ih'
        have hgl := Nat.lt_of_lt_of_le hg bB.size
        have wk : IntKind.i64.wrap ((j : Int) + 1) = (j : Int) + 1 := by simp only [IntKind.wrap, IntKind.signed, IntKind.bits]; simp; omega
        go_wp2_with fail
        refine hcall'.mono ?_
        rintro e w2 ⟨⟨r, rfl, hr⟩, k2⟩
        have b2 := bB.trans (k2.mono bB.size)
        have hB1 := (k2.block _ hbl).trans hB
        cases r with
        | false =>
          have hno : ¬ Whole ⟨k, b, n, s, ks, vs⟩ := fun e => by have := hr.2 ((HW.out.1 e).2 _ HM.out); cases this
          go_wp2_with fail
          go_ret
          exact ⟨⟨false, rfl, by simp; exact hno⟩, b2⟩
        | true =>
          have hall : ∀ x ∈ vs.take (j + 1), Whole x := fun x hx => by
            rw [HT.out] at hx
            rcases List.mem_append.1 hx with hx | hx
            · exact HL.out x hx
            · rw [List.mem_singleton.1 hx]
              exact hr.1 rfl
          have HL2 := Lib.hid hall
          clear hall hr
          go_wp2_with fail
          go_roundw
          case rel => exact ⟨j + 1, by omega, by go_num, HL2.out, hB1, b2⟩
          case measure => simp [intOf]; omega
      · obtain rfl : j = vs.length := by omega
        have hyes : Whole ⟨k, b, n, s, ks, vs⟩ := HW.out.2 ⟨HO.out, fun x hx => HL.out x (by rw [List.take_length]; exact hx)⟩
        go_wp2_with fail
        go_ret
        exact ⟨⟨true, rfl, by simp; exact hyes⟩, bB⟩
end Go.Proofs.YtehpjidajmoggaaGreatDoor.Tre
namespace Go.Proofs.YtehpjidajmoggaaGreatDoor.Tre
open Go.RowKit Kit Txt
open Num (Dec zero)

set_option maxRecDepth 100000 in
set_option maxHeartbeats 4000000 in
theorem rright_of {F : Val → Prop} (hF : ∀ v, F v → ∀ x ∈ v.kids, F x) (hown : ∀ (v : Val) (w : World) (u : Value), F v → HoldV w u v → Calls Tryz.prog 30 #[u] w fun e w' => (∃ r : Bool, e = .returned (.bool r) ∧ (r = true ↔ Own v)) ∧ Below w.heap.size w w')
    {v : Val} {w : World} {u : Value} (hf : F v) (hd : deep v ≤ 1000000) (h : HoldV w u v) : Calls Tryz.prog 11 #[u] w fun e w' => (∃ r : Bool, e = .returned (.bool r) ∧ (r = true ↔ Right v)) ∧ Below w.heap.size w w' := by
  have hw := fun wx (hb : Below w.heap.size w wx) => rwhole_of hF hown v wx u hf (h.below hb)
  have hdp := fun wx (hb : Below w.heap.size w wx) => rdeep_any v wx u hd (h.below hb)
  have HR := Lib.hid (show Right v ↔ deep v ≤ 64 ∧ Whole v from Iff.rfl)
  clear hown hF hf
  obtain ⟨k, b, n, s, ks, vs⟩ := v
  obtain ⟨cs, rfl, hc⟩ := h
  rw [Hold] at hc
  obtain ⟨uk, a, c, rfl, -, -, -, -⟩ := hc
  have hw' : ∀ wx, Below w.heap.size w wx → Calls Tryz.prog 17 #[.agg #[.int .i64 k, .bool b, .bool n.neg, .string (txt n.dig), .int .i64 n.exp, .string (txt s), uk, .slice a vs.length c]] wx fun e w' => (∃ r : Bool, e = .returned (.bool r) ∧ (r = true ↔ Whole ⟨k, b, n, s, ks, vs⟩)) ∧ Below wx.heap.size wx w' := hw
  have hd' : ∀ wx, Below w.heap.size w wx → Calls Tryz.prog 10 #[.agg #[.int .i64 k, .bool b, .bool n.neg, .string (txt n.dig), .int .i64 n.exp, .string (txt s), uk, .slice a vs.length c]] wx fun e w' => e = .returned (.int .i64 (deep ⟨k, b, n, s, ks, vs⟩)) ∧ Below wx.heap.size wx w' := hdp
  show Calls Tryz.prog 11 #[.agg #[.int .i64 k, .bool b, .bool n.neg, .string (txt n.dig), .int .i64 n.exp, .string (txt s), uk, .slice a vs.length c]] w _
  have hA := World.alloc_heap_new w (.cells #[.int .i64 k, .bool b, .bool n.neg, .string (txt n.dig), .int .i64 n.exp, .string (txt s), uk, .slice a vs.length c] 28)
  have bA : Below w.heap.size w (w.alloc (.cells #[.int .i64 k, .bool b, .bool n.neg, .string (txt n.dig), .int .i64 n.exp, .string (txt s), uk, .slice a vs.length c] 28)) := (Below.refl _ w).alloc (Nat.le_refl _) _
  clear hw hdp
  obtain ⟨D, hD⟩ : ∃ D, deep ⟨k, b, n, s, ks, vs⟩ = D := ⟨_, rfl⟩
  rw [hD] at hd
  simp only [hD] at hd'
  have HD := Lib.hid hD
  clear hD
  obtain ⟨c0, c1, c2, c3, c4, c5, c6, c7⟩ := eight hA
  by_cases h64 : D ≤ 64
  · have h64' : (D : Int) ≤ 64 := by omega
    go_enter Tryz.func11, Tryz.ntmps11
    go_wp2_with fail
    refine (hd' _ bA).mono ?_
    rintro e w1 ⟨rfl, k1⟩
    have b1 := bA.trans (k1.mono bA.size)
    have hA1 := (k1.block _ (lt_of_heap hA)).trans hA
    clear c0 c1 c2 c3 c4 c5 c6 c7 hA bA k1 hd'
    obtain ⟨c0, c1, c2, c3, c4, c5, c6, c7⟩ := eight hA1
    go_wp2_with fail
    refine (hw' _ b1).mono ?_
    rintro e w2 ⟨⟨r, rfl, hr⟩, k2⟩
    have b2 := b1.trans (k2.mono b1.size)
    have HQ := Lib.hid hr
    clear hr
    go_wp2_with fail
    go_ret
    refine ⟨⟨r, by simp, ?_⟩, b2⟩
    rw [HR.out, HD.out, HQ.out]
    exact ⟨fun e => ⟨h64, e⟩, fun e => e.2⟩
  · have h64' : decide ((D : Int) ≤ 64) = false := by simp; omega
    go_enter Tryz.func11, Tryz.ntmps11
    go_wp2_with fail
    refine (hd' _ bA).mono ?_
    rintro e w1 ⟨rfl, k1⟩
    have b1 := bA.trans (k1.mono bA.size)
    go_wp2_with fail
    go_ret
    refine ⟨⟨false, by simp, ?_⟩, b1⟩
    rw [HR.out, HD.out]
    exact ⟨fun e => (by cases e), fun e => absurd e.1 h64⟩
end Go.Proofs.YtehpjidajmoggaaGreatDoor.Tre
namespace Go.Proofs.YtehpjidajmoggaaGreatDoor.Tre
open Go.RowKit Kit Txt
open Num (Dec zero)

/-- A Boolean that tells whether p holds. -/
def Tells (p : Prop) (w : World) (e : Ending) (w' : World) : Prop := (∃ r : Bool, e = .returned (.bool r) ∧ (r = true ↔ p)) ∧ Below w.heap.size w w'
theorem Tells.yes {p : Prop} {w w' : World} (h : p) (b : Below w.heap.size w w') : Tells p w (.returned (.bool true)) w' := ⟨⟨true, rfl, by simp [h]⟩, b⟩
theorem Tells.no {p : Prop} {w w' : World} (h : ¬ p) (b : Below w.heap.size w w') : Tells p w (.returned (.bool false)) w' := ⟨⟨false, rfl, by simp [h]⟩, b⟩
/-- What the tests ahead of the keys refuse. -/
def Bad3 (k : Int) (b : Bool) (n : Dec) (s : List UInt8) : Prop := (k ≠ 2 ∧ b = true) ∨ (k ≠ 3 ∧ n ≠ zero) ∨ (k ≠ 4 ∧ s ≠ [])
instance (k : Int) (b : Bool) (n : Dec) (s : List UInt8) : Decidable (Bad3 k b n s) := by unfold Bad3; exact inferInstance
def Bad5 (k : Int) (ks : List (List UInt8)) (m : Nat) : Prop := (k < 5 ∧ 0 < m) ∨ (k ≠ 6 ∧ 0 < ks.length)
instance (k : Int) (ks : List (List UInt8)) (m : Nat) : Decidable (Bad5 k ks m) := by unfold Bad5; exact inferInstance
def Bad9 (k : Int) (ks : List (List UInt8)) (m : Nat) : Prop := k = 6 ∧ ks.length ≠ m
def Bad7 (n : Dec) (s : List UInt8) : Prop := ¬ Num.Right n ∨ Utf.bad s ≠ none
instance (n : Dec) (s : List UInt8) : Decidable (Bad7 n s) := by unfold Bad7; exact inferInstance
theorem valid_rows {w : World} {l : List UInt8} (hl : l.length < 1000000000) : Calls Tryz.prog 45 #[.string (txt l)] w fun e w' => e = .returned (.bool (decide (Utf.bad l = none))) ∧ Below w.heap.size w w' := by
  have h := Utf.rvalid_any (w := w) (s := txt l) (by rw [txt_size]; omega)
  rw [txt_list, decide_eq_decide.2 (Utf.badI_neg l)] at h
  exact h
theorem nodup_snoc {ks : List (List UInt8)} {i : Nat} (hi : i < ks.length) (h : (ks.take i).Nodup) (hn : ∀ j, j < i → ks[j]? ≠ some ks[i]) : (ks.take (i + 1)).Nodup := by
  rw [List.take_succ_eq_append_getElem hi, List.nodup_append]
  refine ⟨h, by simp, fun a ha b hb => ?_⟩
  rw [List.mem_singleton.1 hb]
  rintro rfl
  obtain ⟨j, hj, e⟩ := List.mem_iff_getElem.1 ha
  rw [List.length_take] at hj
  refine hn j (by omega) ?_
  rw [List.getElem?_eq_getElem (by omega), ← e, List.getElem_take]
theorem not_nodup {ks : List (List UInt8)} {i j : Nat} (hi : i < ks.length) (hj : j < i) (e : ks[j] = ks[i]) : ¬ ks.Nodup := fun h =>
  List.pairwise_iff_getElem.1 h j i (by omega) hi hj e
instance (k : Int) (ks : List (List UInt8)) (m : Nat) : Decidable (Bad9 k ks m) := by unfold Bad9; exact inferInstance
theorem own_bad {k : Int} {b : Bool} {n : Dec} {s : List UInt8} {ks : List (List UInt8)} {vs : List Val} :
    Own ⟨k, b, n, s, ks, vs⟩ ↔ 1 ≤ k ∧ k ≤ 6 ∧ ¬ Bad3 k b n s ∧ ¬ Bad5 k ks vs.length ∧ Num.Right n ∧ Utf.bad s = none ∧ ¬ Bad9 k ks vs.length ∧ (∀ x ∈ ks, Utf.bad x = none) ∧ ks.Nodup := by
  unfold Own Bad3 Bad5 Bad9 Val.kind Val.is Val.num Val.str Val.keys Val.kids
  dsimp only
  constructor
  · rintro ⟨h1, h2, h3, h4, h5, h6, h7, h8, h9, h10, h11, h12⟩
    refine ⟨h1, h2, ?_, ?_, h8, h9, ?_, h11, h12⟩
    · rintro (⟨a, c⟩ | ⟨a, c⟩ | ⟨a, c⟩)
      · rw [h3 a] at c; cases c
      · exact c (h4 a)
      · exact c (h5 a)
    · rintro (⟨a, c⟩ | ⟨a, c⟩)
      · rw [h6 a] at c; simp at c
      · rw [h7 a] at c; simp at c
    · rintro ⟨a, c⟩
      exact c (h10 a)
  · rintro ⟨h1, h2, h3, h5, h8, h9, h10, h11, h12⟩
    refine ⟨h1, h2, fun a => ?_, fun a => ?_, fun a => ?_, fun a => ?_, fun a => ?_, h8, h9, fun a => ?_, h11, h12⟩
    · cases b with
      | false => rfl
      | true => exact absurd (.inl ⟨a, rfl⟩) h3
    · by_cases e : n = zero
      · exact e
      · exact absurd (.inr (.inl ⟨a, e⟩)) h3
    · by_cases e : s = []
      · exact e
      · exact absurd (.inr (.inr ⟨a, e⟩)) h3
    · by_cases e : vs = []
      · exact e
      · exact absurd (.inl ⟨a, List.length_pos_iff.2 e⟩) h5
    · by_cases e : ks = []
      · exact e
      · exact absurd (.inr ⟨a, List.length_pos_iff.2 e⟩) h5
    · by_cases e : ks.length = vs.length
      · exact e
      · exact absurd ⟨a, e⟩ h10

set_option maxRecDepth 100000 in
set_option maxHeartbeats 8000000 in
theorem rown_any {v : Val} {w : World} {u : Value} (hs1 : v.str.length < 1000000000) (hs2 : v.num.dig.length < 1000000000) (hs3 : ∀ x ∈ v.keys, x.length < 1000000000) (h : HoldV w u v) :
    Calls Tryz.prog 30 #[u] w (Tells (Own v) w) := by
  obtain ⟨k, b, n, s, ks, vs⟩ := v
  obtain ⟨cs, rfl, hc⟩ := h
  rw [Hold] at hc
  obtain ⟨uk, a, c, rfl, hk, hcap, hmax, -⟩ := hc
  obtain ⟨pk, ck, rfl, hck, hmk, hxk⟩ := hk
  unfold Val.str at hs1
  unfold Val.num at hs2
  unfold Val.keys at hs3
  dsimp only at hs1 hs2 hs3
  show Calls Tryz.prog 30 #[.agg #[.int .i64 k, .bool b, .bool n.neg, .string (txt n.dig), .int .i64 n.exp, .string (txt s), .slice pk ks.length ck, .slice a vs.length c]] w _
  have hA := World.alloc_heap_new w (.cells #[.int .i64 k, .bool b, .bool n.neg, .string (txt n.dig), .int .i64 n.exp, .string (txt s), .slice pk ks.length ck, .slice a vs.length c] 28)
  have bA : Below w.heap.size w (w.alloc (.cells #[.int .i64 k, .bool b, .bool n.neg, .string (txt n.dig), .int .i64 n.exp, .string (txt s), .slice pk ks.length ck, .slice a vs.length c] 28)) := (Below.refl _ w).alloc (Nat.le_refl _) _
  have hob := own_bad (k := k) (b := b) (n := n) (s := s) (ks := ks) (vs := vs)
  by_cases k1 : k < 1
  · have HN := Lib.hid (show ¬ Own ⟨k, b, n, s, ks, vs⟩ from fun h => by have := (hob.1 h).1; omega)
    obtain ⟨c0, c1, c2, c3, c4, c5, c6, c7⟩ := eight hA
    clear hob
    go_enter Tryz.func30, Tryz.ntmps30
    go_wp2_with fail
    go_ret
    exact .no HN.out bA
  have k1' : decide (k < 1) = false := by simp; omega
  by_cases k6 : 6 < k
  · have HN := Lib.hid (show ¬ Own ⟨k, b, n, s, ks, vs⟩ from fun h => by have := (hob.1 h).2.1; omega)
    obtain ⟨c0, c1, c2, c3, c4, c5, c6, c7⟩ := eight hA
    clear hob
    go_enter Tryz.func30, Tryz.ntmps30
    go_wp2_with fail
    go_ret
    exact .no HN.out bA
  have k6' : decide (6 < k) = false := by simp; omega
  have hO : Own ⟨k, b, n, s, ks, vs⟩ ↔ ¬ Bad3 k b n s ∧ ¬ Bad5 k ks vs.length ∧ Num.Right n ∧ Utf.bad s = none ∧ ¬ Bad9 k ks vs.length ∧ (∀ x ∈ ks, Utf.bad x = none) ∧ ks.Nodup := by
    rw [hob]
    constructor
    · exact fun h => h.2.2
    · exact fun h => ⟨by omega, by omega, h⟩
  have HO := Lib.hid hO
  obtain ⟨c0, c1, c2, c3, c4, c5, c6, c7⟩ := eight hA
  clear hob hO
  go_enter Tryz.func30, Tryz.ntmps30
  go_upto_region 3 with fail
  clear k1 k1' k6 k6'
  go_cut [40] from 13 to 40 (fun q wc => q = .bool (decide (Bad3 k b n s)) ∧ wc.heap[w.heap.size]? = some (.cells #[.int .i64 k, .bool b, .bool n.neg, .string (txt n.dig), .int .i64 n.exp, .string (txt s), .slice pk ks.length ck, .slice a vs.length c] 28 (0, 0)) ∧ Below w.heap.size w wc)
  case first =>
    by_cases a1 : k ≠ 2 ∧ b = true
    · have HB := Lib.hid (decide_eq_true (p := Bad3 k b n s) (.inl a1)).symm
      have e1 : (k != 2) = true := by simpa using a1.1
      obtain ⟨-, rfl⟩ := a1
      go_wp2_with fail
      go_meet
      case rel => exact ⟨congrArg Value.bool HB.out, hA, bA⟩
    by_cases a2 : k ≠ 3 ∧ n ≠ zero
    · have HB := Lib.hid (decide_eq_true (p := Bad3 k b n s) (.inr (.inl a2))).symm
      have e2 : (k != 3) = true := by simpa using a2.1
      obtain ⟨g1, g2, g3⟩ := n
      have hd : (g1 == false) = false ∨ (g1 = false ∧ ((txt g2).toList == (txt []).toList) = false) ∨ (g1 = false ∧ g2 = [] ∧ (g3 == 0) = false) := by
        by_cases f1 : g1 = false
        · by_cases f2 : g2 = []
          · by_cases f3 : g3 = 0
            · exact absurd (by rw [f1, f2, f3]; rfl) a2.2
            · exact .inr (.inr ⟨f1, f2, by simpa using f3⟩)
          · exact .inr (.inl ⟨f1, txt_ne f2⟩)
        · exact .inl (by simpa using f1)
      have hk2 : (k != 2) = false ∨ ((k != 2) = true ∧ b = false) := by
        by_cases h : k = 2
        · exact .inl (by simp [h])
        · refine .inr ⟨by simpa using h, ?_⟩
          cases b with
          | false => rfl
          | true => exact absurd ⟨h, rfl⟩ a1
      have ht0 : (⟨#[]⟩ : ByteArray) = txt [] := rfl
      dsimp only at *
      clear a1 a2
      rcases hk2 with h2 | ⟨h2, rfl⟩
      all_goals
        rcases hd with h1 | ⟨rfl, h1⟩ | ⟨rfl, rfl, h1⟩
        all_goals
          go_wp2_with fail
          go_meet
          case rel => exact ⟨congrArg Value.bool HB.out, hA, bA⟩
    have hk2 : (k != 2) = false ∨ ((k != 2) = true ∧ b = false) := by
      by_cases h : k = 2
      · exact .inl (by simp [h])
      · refine .inr ⟨by simpa using h, ?_⟩
        cases b with
        | false => rfl
        | true => exact absurd ⟨h, rfl⟩ a1
    have hk3 : (k != 3) = false ∨ ((k != 3) = true ∧ n.neg = false ∧ n.dig = [] ∧ n.exp = 0) := by
      by_cases h : k = 3
      · exact .inl (by simp [h])
      · refine .inr ⟨by simpa using h, ?_⟩
        have : n = zero := by
          by_cases e : n = zero
          · exact e
          · exact absurd ⟨h, e⟩ a2
        subst this
        exact ⟨rfl, rfl, rfl⟩
    have ht0 : (⟨#[]⟩ : ByteArray) = txt [] := rfl
    by_cases a3 : k ≠ 4 ∧ s ≠ []
    · have HB := Lib.hid (decide_eq_true (p := Bad3 k b n s) (.inr (.inr a3))).symm
      have e4 : (k != 4) = true := by simpa using a3.1
      have e5 := txt_ne a3.2
      clear a1 a2 a3
      obtain ⟨g1, g2, g3⟩ := n
      dsimp only at *
      rcases hk2 with h2 | ⟨h2, rfl⟩
      all_goals
        rcases hk3 with h3 | ⟨h3, rfl, rfl, rfl⟩
        all_goals
          go_wp2_with fail
          go_meet
          case rel => exact ⟨congrArg Value.bool HB.out, hA, bA⟩
    · have HB := Lib.hid (decide_eq_false (p := Bad3 k b n s) (by
        rintro (h | h | h)
        · exact a1 h
        · exact a2 h
        · exact a3 h)).symm
      have hk4 : (k != 4) = false ∨ ((k != 4) = true ∧ s = []) := by
        by_cases h : k = 4
        · exact .inl (by simp [h])
        · refine .inr ⟨by simpa using h, ?_⟩
          by_cases e : s = []
          · exact e
          · exact absurd ⟨h, e⟩ a3
      have ht1 : (txt []).toList = [] := by unfold txt; rw [ByteArray.toList_mk]
      clear a1 a2 a3
      obtain ⟨g1, g2, g3⟩ := n
      dsimp only at *
      rcases hk2 with h2 | ⟨h2, rfl⟩
      all_goals
        rcases hk3 with h3 | ⟨h3, rfl, rfl, rfl⟩
        all_goals
          rcases hk4 with h4 | ⟨h4, rfl⟩
          all_goals
            go_wp2_with fail
            go_meet
            case rel => exact ⟨congrArg Value.bool HB.out, hA, bA⟩
  case rest =>
    obtain ⟨rfl, hA2, b2⟩ := hcut
    clear c0 c1 c2 c3 c4 c5 c6 c7 hA bA
    obtain ⟨c0, c1, c2, c3, c4, c5, c6, c7⟩ := eight hA2
    by_cases hB3 : Bad3 k b n s
    · have HN := Lib.hid (show ¬ Own ⟨k, b, n, s, ks, vs⟩ from fun h => (HO.out.1 h).1 hB3)
      rw [decide_eq_true hB3]
      clear hB3
      go_wp2_with fail
      go_ret
      exact .no HN.out b2
    rw [decide_eq_false hB3]
    have H3 := Lib.hid hB3
    clear hB3
    go_upto_region 5 with fail
    go_cut [60] from 41 to 60 (fun q wd => q = .bool (decide (Bad5 k ks vs.length)) ∧ wd.heap[w.heap.size]? = some (.cells #[.int .i64 k, .bool b, .bool n.neg, .string (txt n.dig), .int .i64 n.exp, .string (txt s), .slice pk ks.length ck, .slice a vs.length c] 28 (0, 0)) ∧ Below w.heap.size w wd)
    case first =>
      by_cases a1 : k < 5 ∧ 0 < vs.length
      · have HB := Lib.hid (decide_eq_true (p := Bad5 k ks vs.length) (.inl a1)).symm
        obtain ⟨e1, e2⟩ := a1
        have e2' : decide (0 < vs.length) = true := decide_eq_true e2
        clear e2
        go_wp2_with fail
        go_meet
        case rel => exact ⟨congrArg Value.bool HB.out, hA2, b2⟩
      have g1 : decide (k < 5) = false ∨ (k < 5 ∧ decide (0 < vs.length) = false) := by
        by_cases h : k < 5
        · exact .inr ⟨h, decide_eq_false fun h2 => a1 ⟨h, h2⟩⟩
        · exact .inl (decide_eq_false h)
      by_cases a2 : k ≠ 6 ∧ 0 < ks.length
      · have HB := Lib.hid (decide_eq_true (p := Bad5 k ks vs.length) (.inr a2)).symm
        have e1 : (k != 6) = true := by simpa using a2.1
        have e2' : decide (0 < ks.length) = true := decide_eq_true a2.2
        clear a1 a2
        rcases g1 with h | ⟨h, h2⟩
        all_goals
          go_wp2_with fail
          go_meet
          case rel => exact ⟨congrArg Value.bool HB.out, hA2, b2⟩
      · have HB := Lib.hid (decide_eq_false (p := Bad5 k ks vs.length) (fun h => h.elim a1 a2)).symm
        have g2 : (k != 6) = false ∨ ((k != 6) = true ∧ decide (0 < ks.length) = false) := by
          by_cases h : k = 6
          · exact .inl (by simp [h])
          · exact .inr ⟨by simpa using h, decide_eq_false fun h2 => a2 ⟨h, h2⟩⟩
        clear a1 a2
        rcases g1 with h | ⟨h, h2⟩
        all_goals
          rcases g2 with h3 | ⟨h3, h4⟩
          all_goals
            go_wp2_with fail
            go_meet
            case rel => exact ⟨congrArg Value.bool HB.out, hA2, b2⟩
    case rest =>
      obtain ⟨rfl, hA3, b3⟩ := hcut
      clear c0 c1 c2 c3 c4 c5 c6 c7 hA2 b2
      obtain ⟨c0, c1, c2, c3, c4, c5, c6, c7⟩ := eight hA3
      by_cases hB5 : Bad5 k ks vs.length
      · have HN := Lib.hid (show ¬ Own ⟨k, b, n, s, ks, vs⟩ from fun h => (HO.out.1 h).2.1 hB5)
        rw [decide_eq_true hB5]
        clear hB5
        go_wp2_with fail
        go_ret
        exact .no HN.out b3
      rw [decide_eq_false hB5]
      have H5 := Lib.hid hB5
      clear hB5
      have hr : ∀ wx, Calls Tryz.prog 44 #[.agg #[.bool n.neg, .string (txt n.dig), .int .i64 n.exp]] wx fun e w' => e = .returned (.bool (decide (Num.Right n))) ∧ Below wx.heap.size wx w' := fun wx => Num.right_any hs2
      have hv := fun wx => valid_rows (w := wx) hs1
      go_upto_region 7 with fail
      go_cut [70] from 61 to 70 (fun q we => q = .bool (decide (Bad7 n s)) ∧ we.heap[w.heap.size]? = some (.cells #[.int .i64 k, .bool b, .bool n.neg, .string (txt n.dig), .int .i64 n.exp, .string (txt s), .slice pk ks.length ck, .slice a vs.length c] 28 (0, 0)) ∧ Below w.heap.size w we)
      case first =>
        by_cases a1 : Num.Right n
        · simp only [decide_eq_true a1] at hr
          by_cases a2 : Utf.bad s = none
          · have HB := Lib.hid (decide_eq_false (p := Bad7 n s) (fun h => h.elim (fun h => h a1) (fun h => h a2))).symm
            simp only [decide_eq_true a2] at hv
            clear a1 a2
            go_wp2_with fail
            refine (hr _).mono ?_
            rintro e w1 ⟨rfl, k1⟩
            have b4 := b3.trans (k1.mono b3.size)
            have hA4 := (k1.block _ (lt_of_heap hA3)).trans hA3
            clear c0 c1 c2 c3 c4 c5 c6 c7
            obtain ⟨c0, c1, c2, c3, c4, c5, c6, c7⟩ := eight hA4
            go_wp2_with fail
            refine (hv _).mono ?_
            rintro e w2 ⟨rfl, k2⟩
            go_wp2_with fail
            go_meet
            case rel => exact ⟨congrArg Value.bool HB.out, (k2.block _ (lt_of_heap hA4)).trans hA4, b4.trans (k2.mono b4.size)⟩
          · have HB := Lib.hid (decide_eq_true (p := Bad7 n s) (.inr a2)).symm
            simp only [decide_eq_false a2] at hv
            clear a1 a2
            go_wp2_with fail
            refine (hr _).mono ?_
            rintro e w1 ⟨rfl, k1⟩
            have b4 := b3.trans (k1.mono b3.size)
            have hA4 := (k1.block _ (lt_of_heap hA3)).trans hA3
            clear c0 c1 c2 c3 c4 c5 c6 c7
            obtain ⟨c0, c1, c2, c3, c4, c5, c6, c7⟩ := eight hA4
            go_wp2_with fail
            refine (hv _).mono ?_
            rintro e w2 ⟨rfl, k2⟩
            go_wp2_with fail
            go_meet
            case rel => exact ⟨congrArg Value.bool HB.out, (k2.block _ (lt_of_heap hA4)).trans hA4, b4.trans (k2.mono b4.size)⟩
        · have HB := Lib.hid (decide_eq_true (p := Bad7 n s) (.inl a1)).symm
          simp only [decide_eq_false a1] at hr
          clear a1
          go_wp2_with fail
          refine (hr _).mono ?_
          rintro e w1 ⟨rfl, k1⟩
          go_wp2_with fail
          go_meet
          case rel => exact ⟨congrArg Value.bool HB.out, (k1.block _ (lt_of_heap hA3)).trans hA3, b3.trans (k1.mono b3.size)⟩
      case rest =>
        obtain ⟨rfl, hA4, b4⟩ := hcut
        clear c0 c1 c2 c3 c4 c5 c6 c7 hA3 b3 hr hv
        obtain ⟨c0, c1, c2, c3, c4, c5, c6, c7⟩ := eight hA4
        by_cases hB7 : Bad7 n s
        · have HN := Lib.hid (show ¬ Own ⟨k, b, n, s, ks, vs⟩ from fun h => hB7.elim (fun h7 => h7 (HO.out.1 h).2.2.1) (fun h7 => h7 (HO.out.1 h).2.2.2.1))
          rw [decide_eq_true hB7]
          clear hB7
          go_wp2_with fail
          go_ret
          exact .no HN.out b4
        rw [decide_eq_false hB7]
        have H7 := Lib.hid hB7
        clear hB7
        go_upto_region 9 with fail
        go_cut [82] from 71 to 82 (fun q wf => q = .bool (decide (Bad9 k ks vs.length)) ∧ wf.heap[w.heap.size]? = some (.cells #[.int .i64 k, .bool b, .bool n.neg, .string (txt n.dig), .int .i64 n.exp, .string (txt s), .slice pk ks.length ck, .slice a vs.length c] 28 (0, 0)) ∧ Below w.heap.size w wf)
        case first =>
          by_cases h6 : k = 6
          · have e6 : (k == 6) = true := by simpa using h6
            by_cases hlen : ks.length = vs.length
            · have HB := Lib.hid (decide_eq_false (p := Bad9 k ks vs.length) (fun h => h.2 hlen)).symm
              have e1 : (((ks.length : Nat) : Int) == ((vs.length : Nat) : Int)) = true := by simp; omega
              have e1' : (((ks.length : Nat) : Int) != ((vs.length : Nat) : Int)) = false := by simp; omega
              clear h6 hlen
              go_wp2_with fail
              go_meet
              case rel => exact ⟨congrArg Value.bool HB.out, hA4, b4⟩
            · have HB := Lib.hid (decide_eq_true (p := Bad9 k ks vs.length) ⟨h6, hlen⟩).symm
              have e1 : (((ks.length : Nat) : Int) == ((vs.length : Nat) : Int)) = false := by simp; omega
              have e1' : (((ks.length : Nat) : Int) != ((vs.length : Nat) : Int)) = true := by simp; omega
              clear h6 hlen
              go_wp2_with fail
              go_meet
              case rel => exact ⟨congrArg Value.bool HB.out, hA4, b4⟩
          · have HB := Lib.hid (decide_eq_false (p := Bad9 k ks vs.length) (fun h => h6 h.1)).symm
            have e6 : (k == 6) = false := by simpa using h6
            clear h6
            go_wp2_with fail
            go_meet
            case rel => exact ⟨congrArg Value.bool HB.out, hA4, b4⟩
        case rest =>
          obtain ⟨rfl, hA5, b5⟩ := hcut
          clear c0 c1 c2 c3 c4 c5 c6 c7 hA4 b4
          obtain ⟨c0, c1, c2, c3, c4, c5, c6, c7⟩ := eight hA5
          by_cases hB9 : Bad9 k ks vs.length
          · have HN := Lib.hid (show ¬ Own ⟨k, b, n, s, ks, vs⟩ from fun h => (HO.out.1 h).2.2.2.2.1 hB9)
            rw [decide_eq_true hB9]
            clear hB9
            go_wp2_with fail
            go_ret
            exact .no HN.out b5
          rw [decide_eq_false hB9]
          have hO2 : Own ⟨k, b, n, s, ks, vs⟩ ↔ (∀ x ∈ ks, Utf.bad x = none) ∧ ks.Nodup := by
            rw [HO.out]
            have h7 : Num.Right n ∧ Utf.bad s = none := by
              refine ⟨?_, ?_⟩
              · by_cases e : Num.Right n
                · exact e
                · exact absurd (.inl e) H7.out
              · by_cases e : Utf.bad s = none
                · exact e
                · exact absurd (.inr e) H7.out
            exact ⟨fun h => h.2.2.2.2.2, fun h => ⟨H3.out, H5.out, h7.1, h7.2, hB9, h⟩⟩
          have HO2 := Lib.hid hO2
          clear hO2 hB9 HO H3 H5 H7 c0 c1 c2 c3 c4 c5 c6 c7
          go_wp2_with fail
          go_loopw [3] (fun y wr => ∃ i : Nat, i ≤ ks.length ∧ y = .int .i64 (i : Int) ∧ ((∀ x ∈ ks.take i, Utf.bad x = none) ∧ (ks.take i).Nodup) ∧ wr.heap[w.heap.size]? = some (.cells #[.int .i64 k, .bool b, .bool n.neg, .string (txt n.dig), .int .i64 n.exp, .string (txt s), .slice pk ks.length ck, .slice a vs.length c] 28 (0, 0)) ∧ Below w.heap.size w wr) (fun y _ => ks.length - (intOf y).toNat)
          case atStart => exact ⟨0, Nat.zero_le _, rfl, ⟨by simp, by simp⟩, hA5, b5⟩
          case round =>
            clear hA5 b5
            obtain ⟨i, hi, rfl, hgood, hA6, b6⟩ := hrel
            have HG := Lib.hid hgood
            clear hgood
            obtain ⟨-, -, -, -, -, -, c6, -⟩ := eight hA6
            by_cases hlt : i < ks.length
            · have hlt' : (i : Int) < (ks.length : Int) := by omega
              rcases hxk with rfl | ⟨g, off, rfl, hg, hx⟩
              · exact absurd hlt (Nat.not_lt_zero _)
              have wi : IntKind.i64.wrap ((i : Int) + 1) = (i : Int) + 1 := by simp only [IntKind.wrap, IntKind.signed, IntKind.bits]; simp; omega
              have hci := (b6.cell (p := ⟨g, off + i, none⟩) hg).trans (hx i ks[i] (List.getElem?_eq_getElem hlt))
              have hv := valid_rows (w := wr) (hs3 _ (List.getElem_mem hlt))
              have hnext : ∀ (h1 : Utf.bad ks[i] = none) (h2 : ∀ j, j < i → ks[j]? ≠ some ks[i]), (∀ x ∈ ks.take (i + 1), Utf.bad x = none) ∧ (ks.take (i + 1)).Nodup := fun h1 h2 => by
                refine ⟨fun x hx => ?_, nodup_snoc hlt HG.out.2 h2⟩
                rw [List.take_succ_eq_append_getElem hlt] at hx
                rcases List.mem_append.1 hx with hx | hx
                · exact HG.out.1 x hx
                · rw [List.mem_singleton.1 hx]
                  exact h1
              have HX := Lib.hid hnext
              have hgl := Nat.lt_of_lt_of_le hg b6.size
              clear hnext
              by_cases hb : Utf.bad ks[i] = none
              · rw [decide_eq_true hb] at hv
                have HB := Lib.hid hb
                clear hb
                obtain ⟨q, hq⟩ : ∃ q, ks[i] = q := ⟨_, rfl⟩
                rw [hq] at hci hv
                have HQ := Lib.hid hq
                clear hq
                go_wp2_with fail
                refine hv.mono ?_
                rintro e w7 ⟨rfl, k7⟩
                have b7 := b6.trans (k7.mono b6.size)
                have hA7 := (k7.block _ (lt_of_heap hA6)).trans hA6
                have hci7 := (k7.cell (p := ⟨g, off + i, none⟩) hgl).trans hci
                clear hci c6 hA6 b6 k7 hv
                go_wp2_with fail
                go_loopw [4] (fun z wq => ∃ j : Nat, j ≤ i ∧ z = .int .i64 (j : Int) ∧ (∀ m, m < j → ks[m]? ≠ some ks[i]) ∧ wq.heap[w.heap.size]? = some (.cells #[.int .i64 k, .bool b, .bool n.neg, .string (txt n.dig), .int .i64 n.exp, .string (txt s), .slice (some ⟨g, off, none⟩) ks.length ck, .slice a vs.length c] 28 (0, 0)) ∧ Below w.heap.size w wq) (fun z _ => i - (intOf z).toNat)
                case atStart => exact ⟨0, Nat.zero_le _, rfl, fun m hm => absurd hm (Nat.not_lt_zero _), hA7, b7⟩
                case round =>
                  clear hA7 b7 hci7
                  obtain ⟨j, hj, rfl, hno, hA8, b8⟩ := hrel
                  have HNo := Lib.hid hno
                  clear hno
                  obtain ⟨-, -, -, -, -, -, c6, -⟩ := eight hA8
                  have hgl8 := Nat.lt_of_lt_of_le hg b8.size
                  by_cases hji : j < i
                  · have hji' : (j : Int) < (i : Int) := by omega
                    have hjl : j < ks.length := by omega
                    have hjl' : (j : Int) < (ks.length : Int) := by omega
                    have wj : IntKind.i64.wrap ((j : Int) + 1) = (j : Int) + 1 := by simp only [IntKind.wrap, IntKind.signed, IntKind.bits]; simp; omega
                    have hcj := (b8.cell (p := ⟨g, off + j, none⟩) hg).trans (hx j ks[j] (List.getElem?_eq_getElem hjl))
                    have hci := (b8.cell (p := ⟨g, off + i, none⟩) hg).trans (hx i ks[i] (List.getElem?_eq_getElem hlt))
                    obtain ⟨p, hp⟩ : ∃ p, ks[j] = p := ⟨_, rfl⟩
                    rw [hp] at hcj
                    rw [HQ.out] at hci
                    have HP := Lib.hid hp
                    clear hp
                    by_cases e : p = q
                    · have heq : ((txt p).toList == (txt q).toList) = true := by rw [e]; simp
                      have HN := Lib.hid (show ¬ Own ⟨k, b, n, s, ks, vs⟩ from fun h => not_nodup hlt hji (by rw [HP.out, HQ.out, e]) (HO2.out.1 h).2)
                      clear e
                      go_wp2_with fail
                      go_quiet (fail)
                      go_wp2_with fail
                      go_ret
                      exact .no HN.out (below_drewN b8 _)
                    · have heq := txt_ne e
                      have HE := Lib.hid e
                      clear e
                      go_wp2_with fail
                      go_quiet (fail)
                      go_wp2_with fail
                      go_roundw
                      case rel => exact ⟨j + 1, by omega, by go_num, fun m hm => by
                        by_cases hmj : m < j
                        · exact HNo.out m hmj
                        · obtain rfl : m = j := by omega
                          rw [List.getElem?_eq_getElem hjl, HP.out, HQ.out]
                          intro h
                          injection h with h
                          exact HE.out h, hA8, below_drewN b8 _⟩
                      case measure => simp [intOf]; omega
                  · obtain rfl : j = i := by omega
                    have hd : decide (j < j) = false := by simp
                    go_wp2_with fail
                    go_roundw
                    case rel => exact ⟨j + 1, by omega, by go_num, HX.out HB.out HNo.out, hA8, b8⟩
                    case measure => simp [intOf]; omega
              · have HN := Lib.hid (show ¬ Own ⟨k, b, n, s, ks, vs⟩ from fun h => hb ((HO2.out.1 h).1 _ (List.getElem_mem hlt)))
                rw [decide_eq_false hb] at hv
                clear hb HX
                generalize ks[i] = q at *
                go_wp2_with fail
                refine hv.mono ?_
                rintro e w7 ⟨rfl, k7⟩
                go_wp2_with fail
                go_ret
                exact .no HN.out (b6.trans (k7.mono b6.size))
            · obtain rfl : i = ks.length := by omega
              have hd : decide (ks.length < ks.length) = false := by simp
              go_wp2_with fail
              go_ret
              have h := HG.out
              rw [List.take_length] at h
              exact .yes (HO2.out.2 h) b6
end Go.Proofs.YtehpjidajmoggaaGreatDoor.Tre
