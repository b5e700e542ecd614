/- The contract of the document's own answer for layer 8 (package tabulariumref08): whole, over that of own. The contract of the document's own answer for layer 8 (package tabulariumref08): Right, over that of own. Nothing is claimed here. -/
import Derived.Test.YtjekannajnkejaaDoorTreeHold
import Derived.Lib.Hide
import Derived.Test.YtjekannajnkejaaDoorTreeDeep
namespace Go.Proofs.YtjekannajnkejaaDoor.Tre
open Go.RowKit Kit Txt
open Num (Dec zero)

set_option maxRecDepth 100000 in
set_option maxHeartbeats 4000000 in
/-- F: how much a value may be, for own; its kids too. -/
theorem rwhole_of {F : Val → Prop} (hF : ∀ v, F v → ∀ x ∈ v.kids, F x) (hown : ∀ (v : Val) (w : World) (u : Value), F v → HoldV w u v → Calls Tryd.prog 39 #[u] w fun e w' => (∃ r : Bool, e = .returned (.bool r) ∧ (r = true ↔ Own v)) ∧ Below w.heap.size w w') :
    ∀ (v : Val) (w : World) (u : Value), F v → HoldV w u v → Calls Tryd.prog 27 #[u] w fun e w' => (∃ r : Bool, e = .returned (.bool r) ∧ (r = true ↔ Whole v)) ∧ Below w.heap.size w w' := by
  refine ind1 fun v ih w u hf h => ?_
  have hkF := hF v hf
  have ho := fun wx (hb : Below w.heap.size w wx) => hown v wx u hf (h.below hb)
  clear hown hF
  obtain ⟨k, b, n, s, ks, vs⟩ := v
  have hwi := whole_iff (v := ⟨k, b, n, s, ks, vs⟩)
  obtain ⟨cs, rfl, hc⟩ := h
  rw [Hold] at hc
  obtain ⟨uk, a, c, rfl, hk, hcap, hmax, hv⟩ := hc
  have ho' : ∀ wx, Below w.heap.size w wx → Calls Tryd.prog 39 #[.agg #[.int .i64 k, .bool b, .bool n.neg, .string (txt n.dig), .int .i64 n.exp, .string (txt s), uk, .slice a vs.length c]] wx fun e w' => (∃ r : Bool, e = .returned (.bool r) ∧ (r = true ↔ Own ⟨k, b, n, s, ks, vs⟩)) ∧ Below wx.heap.size wx w' := ho
  show Calls Tryd.prog 27 #[.agg #[.int .i64 k, .bool b, .bool n.neg, .string (txt n.dig), .int .i64 n.exp, .string (txt s), uk, .slice a vs.length c]] w _
  have hA := World.alloc_heap_new w (.cells #[.int .i64 k, .bool b, .bool n.neg, .string (txt n.dig), .int .i64 n.exp, .string (txt s), uk, .slice a vs.length c] 27)
  have bA : Below w.heap.size w (w.alloc (.cells #[.int .i64 k, .bool b, .bool n.neg, .string (txt n.dig), .int .i64 n.exp, .string (txt s), uk, .slice a vs.length c] 27)) := (Below.refl _ w).alloc (Nat.le_refl _) _
  have ih' : ∀ x ∈ vs, ∀ (w : World) (u : Value), HoldV w u x → Calls Tryd.prog 27 #[u] w fun e w' => (∃ r : Bool, e = .returned (.bool r) ∧ (r = true ↔ Whole x)) ∧ Below w.heap.size w w' := fun x hx w u h => ih x hx w u (hkF x hx) h
  have HW := Lib.hid hwi
  clear ih hk ho hkF hwi hf
  go_enter Tryd.func27, Tryd.ntmps27
  go_wp2_with fail
  refine (ho' _ bA).mono ?_
  rintro e w1 ⟨⟨r, rfl, hr⟩, k1⟩
  have b1 := bA.trans (k1.mono bA.size)
  have hA1 := (k1.block _ (lt_of_heap hA)).trans hA
  clear hA bA ho' k1
  cases r with
  | false =>
    have hno : ¬ Whole ⟨k, b, n, s, ks, vs⟩ := fun e => by have := hr.2 (HW.out.1 e).1; cases this
    go_wp2_with fail
    go_ret
    exact ⟨⟨false, rfl, by simp; exact hno⟩, b1⟩
  | true =>
    have HO := Lib.hid (hr.1 rfl)
    clear hr
    go_wp2_with fail
    go_loopw [3] (fun y wr => ∃ j : Nat, j ≤ vs.length ∧ y = .int .i64 j ∧ (∀ x ∈ vs.take j, Whole x) ∧ wr.heap[w.heap.size]? = some (.cells #[.int .i64 k, .bool b, .bool n.neg, .string (txt n.dig), .int .i64 n.exp, .string (txt s), uk, .slice a vs.length c] 27 (0, 0)) ∧ Below w.heap.size w wr) (fun y _ => vs.length - (intOf y).toNat)
    case atStart => exact ⟨0, Nat.zero_le _, rfl, fun x hx => absurd hx (by simp), hA1, b1⟩
    case round =>
      obtain ⟨j, hj, rfl, hall, hB, bB⟩ := hrel
      obtain ⟨c0, c1, c2, c3, c4, c5, c6, c7⟩ := eight hB
      have hbl := lt_of_heap hB
      have HL := Lib.hid hall
      clear hall
      by_cases hlt : j < vs.length
      · have hlt' : (j : Int) < (vs.length : Int) := by omega
        rcases hv with rfl | ⟨g, off, rfl, hg, hx⟩
        · exact absurd hlt (Nat.not_lt_zero _)
        obtain ⟨cs8, h8, hh⟩ := Holds.at hx (List.getElem?_eq_getElem hlt)
        have hcall := ih' vs[j] (List.getElem_mem hlt)
        have HM := Lib.hid (show vs[j] ∈ vs from List.getElem_mem hlt)
        have HT := Lib.hid (List.take_succ_eq_append_getElem hlt)
        generalize vs[j] = x at *
        have h8' := h8.below hg bB
        have hh' := Hold.below bB x hh
        clear hh h8
        have hh2 := hh'
        obtain ⟨k', b', n', s', ks', vs'⟩ := x
        rw [Hold] at hh2
        obtain ⟨uk', a', c', rfl, -, -, -, -⟩ := hh2
        obtain ⟨d0, d1, d2, d3, d4, d5, d6, d7⟩ := h8'.cells
        have hcall' := hcall wr (.agg #[.int .i64 k', .bool b', .bool n'.neg, .string (txt n'.dig), .int .i64 n'.exp, .string (txt s'), uk', .slice a' vs'.length c']) ⟨_, rfl, hh'⟩
        clear hh' h8' hcall ih'
        have hgl := Nat.lt_of_lt_of_le hg bB.size
        have wk : IntKind.i64.wrap ((j : Int) + 1) = (j : Int) + 1 := by simp only [IntKind.wrap, IntKind.signed, IntKind.bits]; simp; omega
        go_wp2_with fail
        refine hcall'.mono ?_
        rintro e w2 ⟨⟨r, rfl, hr⟩, k2⟩
        have b2 := bB.trans (k2.mono bB.size)
        have hB1 := (k2.block _ hbl).trans hB
        cases r with
        | false =>
          have hno : ¬ Whole ⟨k, b, n, s, ks, vs⟩ := fun e => by have := hr.2 ((HW.out.1 e).2 _ HM.out); cases this
          go_wp2_with fail
          go_ret
          exact ⟨⟨false, rfl, by simp; exact hno⟩, b2⟩
        | true =>
          have hall : ∀ x ∈ vs.take (j + 1), Whole x := fun x hx => by
            rw [HT.out] at hx
            rcases List.mem_append.1 hx with hx | hx
            · exact HL.out x hx
            · rw [List.mem_singleton.1 hx]
              exact hr.1 rfl
          have HL2 := Lib.hid hall
          clear hall hr
          go_wp2_with fail
          go_roundw
          case rel => exact ⟨j + 1, by omega, by go_num, HL2.out, hB1, b2⟩
          case measure => simp [intOf]; omega
      · obtain rfl : j = vs.length := by omega
        have hyes : Whole ⟨k, b, n, s, ks, vs⟩ := HW.out.2 ⟨HO.out, fun x hx => HL.out x (by rw [List.take_length]; exact hx)⟩
        go_wp2_with fail
        go_ret
        exact ⟨⟨true, rfl, by simp; exact hyes⟩, bB⟩
end Go.Proofs.YtjekannajnkejaaDoor.Tre
namespace Go.Proofs.YtjekannajnkejaaDoor.Tre
open Go.RowKit Kit Txt
open Num (Dec zero)

set_option maxRecDepth 100000 in
set_option maxHeartbeats 4000000 in
theorem rright_of {F : Val → Prop} (hF : ∀ v, F v → ∀ x ∈ v.kids, F x) (hown : ∀ (v : Val) (w : World) (u : Value), F v → HoldV w u v → Calls Tryd.prog 39 #[u] w fun e w' => (∃ r : Bool, e = .returned (.bool r) ∧ (r = true ↔ Own v)) ∧ Below w.heap.size w w')
    {v : Val} {w : World} {u : Value} (hf : F v) (hd : deep v ≤ 1000000) (h : HoldV w u v) : Calls Tryd.prog 11 #[u] w fun e w' => (∃ r : Bool, e = .returned (.bool r) ∧ (r = true ↔ Right v)) ∧ Below w.heap.size w w' := by
  have hw := fun wx (hb : Below w.heap.size w wx) => rwhole_of hF hown v wx u hf (h.below hb)
  have hdp := fun wx (hb : Below w.heap.size w wx) => rdeep_any v wx u hd (h.below hb)
  have HR := Lib.hid (show Right v ↔ deep v ≤ 64 ∧ Whole v from Iff.rfl)
  clear hown hF hf
  obtain ⟨k, b, n, s, ks, vs⟩ := v
  obtain ⟨cs, rfl, hc⟩ := h
  rw [Hold] at hc
  obtain ⟨uk, a, c, rfl, -, -, -, -⟩ := hc
  have hw' : ∀ wx, Below w.heap.size w wx → Calls Tryd.prog 27 #[.agg #[.int .i64 k, .bool b, .bool n.neg, .string (txt n.dig), .int .i64 n.exp, .string (txt s), uk, .slice a vs.length c]] wx fun e w' => (∃ r : Bool, e = .returned (.bool r) ∧ (r = true ↔ Whole ⟨k, b, n, s, ks, vs⟩)) ∧ Below wx.heap.size wx w' := hw
  have hd' : ∀ wx, Below w.heap.size w wx → Calls Tryd.prog 13 #[.agg #[.int .i64 k, .bool b, .bool n.neg, .string (txt n.dig), .int .i64 n.exp, .string (txt s), uk, .slice a vs.length c]] wx fun e w' => e = .returned (.int .i64 (deep ⟨k, b, n, s, ks, vs⟩)) ∧ Below wx.heap.size wx w' := hdp
  show Calls Tryd.prog 11 #[.agg #[.int .i64 k, .bool b, .bool n.neg, .string (txt n.dig), .int .i64 n.exp, .string (txt s), uk, .slice a vs.length c]] w _
  have hA := World.alloc_heap_new w (.cells #[.int .i64 k, .bool b, .bool n.neg, .string (txt n.dig), .int .i64 n.exp, .string (txt s), uk, .slice a vs.length c] 27)
  have bA : Below w.heap.size w (w.alloc (.cells #[.int .i64 k, .bool b, .bool n.neg, .string (txt n.dig), .int .i64 n.exp, .string (txt s), uk, .slice a vs.length c] 27)) := (Below.refl _ w).alloc (Nat.le_refl _) _
  clear hw hdp
  obtain ⟨D, hD⟩ : ∃ D, deep ⟨k, b, n, s, ks, vs⟩ = D := ⟨_, rfl⟩
  rw [hD] at hd
  simp only [hD] at hd'
  have HD := Lib.hid hD
  clear hD
  obtain ⟨c0, c1, c2, c3, c4, c5, c6, c7⟩ := eight hA
  by_cases h64 : D ≤ 64
  · have h64' : (D : Int) ≤ 64 := by omega
    go_enter Tryd.func11, Tryd.ntmps11
    go_wp2_with fail
    refine (hd' _ bA).mono ?_
    rintro e w1 ⟨rfl, k1⟩
    have b1 := bA.trans (k1.mono bA.size)
    have hA1 := (k1.block _ (lt_of_heap hA)).trans hA
    clear c0 c1 c2 c3 c4 c5 c6 c7 hA bA k1 hd'
    obtain ⟨c0, c1, c2, c3, c4, c5, c6, c7⟩ := eight hA1
    go_wp2_with fail
    refine (hw' _ b1).mono ?_
    rintro e w2 ⟨⟨r, rfl, hr⟩, k2⟩
    have b2 := b1.trans (k2.mono b1.size)
    have HQ := Lib.hid hr
    clear hr
    go_wp2_with fail
    go_ret
    refine ⟨⟨r, by simp, ?_⟩, b2⟩
    rw [HR.out, HD.out, HQ.out]
    exact ⟨fun e => ⟨h64, e⟩, fun e => e.2⟩
  · have h64' : decide ((D : Int) ≤ 64) = false := by simp; omega
    go_enter Tryd.func11, Tryd.ntmps11
    go_wp2_with fail
    refine (hd' _ bA).mono ?_
    rintro e w1 ⟨rfl, k1⟩
    have b1 := bA.trans (k1.mono bA.size)
    go_wp2_with fail
    go_ret
    refine ⟨⟨false, by simp, ?_⟩, b1⟩
    rw [HR.out, HD.out]
    exact ⟨fun e => (by cases e), fun e => absurd e.1 h64⟩
end Go.Proofs.YtjekannajnkejaaDoor.Tre
