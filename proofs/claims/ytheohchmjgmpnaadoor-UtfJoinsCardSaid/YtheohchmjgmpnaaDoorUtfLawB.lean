/- The walk of UtfJoins. Nothing is claimed here. -/
import Derived.Test.YtheohchmjgmpnaaDoorUtfLawA
namespace Go.Proofs.YtheohchmjgmpnaaDoor.Utf
open Go.RowKit Kit Go.Shelf

theorem bad_none_iff (l : List UInt8) : bad l = none ↔ (scan 0 l).2 = none := Iff.rfl

/-- A text, and bytes behind it. -/
theorem all_append {a b : List UInt8} (h : bad a = none) : (all (a ++ b)).length = (all a).length + (all b).length ∧ bad (a ++ b) = (bad b).map (· + a.length) := by
  unfold all bad at *
  rw [scan_append a b 0 h]
  have hs := scan_shift b 0 a.length
  rw [hs]
  simp

theorem bad_le (l : List UInt8) : ∀ q p, (scan q l).2 = some p → p ≤ q + l.length := by
  refine scan_ind (M := fun l => ∀ q p, (scan q l).2 = some p → p ≤ q + l.length) ?_ ?_ ?_ l
  · intro q p h; rw [scan_nil] at h; cases h
  · intro l h1 h2 q p h; rw [scan_bad h1 h2] at h; simp at h; omega
  · intro c r hc ih q p h
    rw [scan_enc hc] at h
    have := ih _ _ h
    rw [List.length_append]; omega

theorem append_toList (a b : ByteArray) : (a ++ b).data.toList = a.data.toList ++ b.data.toList := by simp [ByteArray.data_append]

set_option maxHeartbeats 2000000 in
theorem joins_law {w : World} {a b : ByteArray} (hl : Laid w) : Calls Tryd.prog 6 #[.string a, .string b] w fun e w' => e = .returned (.bool true) ∧ Below w.heap.size w w' := by
  have hw := wakes_any hl
  by_cases ha : 500 < a.size
  · have ha' : (500 : Int) < (a.size : Int) := by omega
    go_enter Tryd.func6, Tryd.ntmps6
    go_wp2_with fail
    refine hw.mono ?_
    rintro e w1 ⟨rfl, k1⟩
    go_wp2_with fail
    go_ret
    exact ⟨rfl, k1⟩
  have ha' : decide ((500 : Int) < (a.size : Int)) = false := by simp; omega
  by_cases hb : 500 < b.size
  · have hb' : (500 : Int) < (b.size : Int) := by omega
    go_enter Tryd.func6, Tryd.ntmps6
    go_wp2_with fail
    refine hw.mono ?_
    rintro e w1 ⟨rfl, k1⟩
    go_wp2_with fail
    go_ret
    exact ⟨rfl, k1⟩
  have hb' : decide ((500 : Int) < (b.size : Int)) = false := by simp; omega
  have sa : a.size < 4611686018427387904 := by omega
  have sb : b.size < 4611686018427387904 := by omega
  have hsum : (a ++ b).size = a.size + b.size := ByteArray.size_append
  have sab : (a ++ b).size < 4611686018427387904 := by omega
  by_cases hva : bad a.data.toList = none
  · have e1 : decide (badI a.data.toList < 0) = true := decide_eq_true ((badI_neg _).2 hva)
    have e2 : countV a.data.toList = .tuple #[.int .i64 (all a.data.toList).length, .bool true] := by unfold countV; rw [if_pos hva, decide_eq_true hva]
    obtain ⟨q1, q2⟩ := all_append (b := b.data.toList) hva
    have hal : (all a.data.toList).length ≤ 500 := by have := scan_len a.data.toList 0; simp at this; unfold all; omega
    have hbl : (all b.data.toList).length ≤ 500 := by have := scan_len b.data.toList 0; simp at this; unfold all; omega
    cases hvb : bad b.data.toList with
    | none =>
      have e3 : countV b.data.toList = .tuple #[.int .i64 (all b.data.toList).length, .bool true] := by unfold countV; rw [if_pos hvb, decide_eq_true hvb]
      rw [hvb] at q2
      have e4 : countV (a ++ b).data.toList = .tuple #[.int .i64 (((all a.data.toList).length : Int) + ((all b.data.toList).length : Int)), .bool true] := by
        rw [append_toList]
        unfold countV
        rw [q2, q1, ← Int.natCast_add]
        rfl
      go_enter Tryd.func6, Tryd.ntmps6
      go_wp2_with fail
      refine hw.mono ?_
      rintro e w1 ⟨rfl, k1⟩
      have hl1 := hl.below k1 hl.lt
      have c1 := valid_any (w := w1) sa hl1
      rw [e1] at c1
      go_wp2_with fail
      refine c1.mono ?_
      rintro e w2 ⟨rfl, k2⟩
      have hl2 := hl1.below k2 hl1.lt
      have k12 := k1.trans (k2.mono k1.size)
      have c2 := count_any (w := w2) sa hl2
      rw [e2] at c2
      go_wp2_with fail
      refine c2.mono ?_
      rintro e w3 ⟨rfl, k3⟩
      have hl3 := hl2.below k3 hl2.lt
      have k13 := k12.trans (k3.mono k12.size)
      have c3 := count_any (w := w3) sb hl3
      rw [e3] at c3
      go_wp2_with fail
      refine c3.mono ?_
      rintro e w4 ⟨rfl, k4⟩
      have hl4 := hl3.below k4 hl3.lt
      have k14 := k13.trans (k4.mono k13.size)
      have c4 := count_any (w := w4) sab hl4
      rw [e4] at c4
      go_wp2_with fail
      refine c4.mono ?_
      rintro e w5 ⟨rfl, k5⟩
      go_wp2_with fail
      go_ret
      exact ⟨rfl, k14.trans (k5.mono k14.size)⟩
    | some p =>
      have hp : p ≤ 500 := by have := bad_le b.data.toList 0 p hvb; simp at this; omega
      have hbn : bad b.data.toList ≠ none := by rw [hvb]; simp
      have e3 : countV b.data.toList = .tuple #[.int .i64 0, .bool false] := by unfold countV; rw [if_neg hbn, decide_eq_false hbn]; rfl
      have e5 : badI b.data.toList = (p : Int) := by unfold badI; rw [hvb]
      rw [hvb] at q2
      have hla : a.data.toList.length = a.size := by simp
      have hbn2 : bad (a.data.toList ++ b.data.toList) ≠ none := by rw [q2]; simp
      have e4 : countV (a ++ b).data.toList = .tuple #[.int .i64 0, .bool false] := by
        rw [append_toList]
        unfold countV
        rw [if_neg hbn2, decide_eq_false hbn2]
        rfl
      have e6 : badI (a ++ b).data.toList = (a.size : Int) + (p : Int) := by
        rw [append_toList]
        unfold badI
        rw [q2]
        simp only [Option.map_some, hla]
        omega
      clear q1 q2 hbn hbn2 hvb hva hla
      go_enter Tryd.func6, Tryd.ntmps6
      go_wp2_with fail
      refine hw.mono ?_
      rintro e w1 ⟨rfl, k1⟩
      have hl1 := hl.below k1 hl.lt
      have c1 := valid_any (w := w1) sa hl1
      rw [e1] at c1
      go_wp2_with fail
      refine c1.mono ?_
      rintro e w2 ⟨rfl, k2⟩
      have hl2 := hl1.below k2 hl1.lt
      have k12 := k1.trans (k2.mono k1.size)
      have c2 := count_any (w := w2) sa hl2
      rw [e2] at c2
      go_wp2_with fail
      refine c2.mono ?_
      rintro e w3 ⟨rfl, k3⟩
      have hl3 := hl2.below k3 hl2.lt
      have k13 := k12.trans (k3.mono k12.size)
      have c3 := count_any (w := w3) sb hl3
      rw [e3] at c3
      go_wp2_with fail
      refine c3.mono ?_
      rintro e w4 ⟨rfl, k4⟩
      have hl4 := hl3.below k4 hl3.lt
      have k14 := k13.trans (k4.mono k13.size)
      have c4 := count_any (w := w4) sab hl4
      rw [e4] at c4
      go_wp2_with fail
      refine c4.mono ?_
      rintro e w5 ⟨rfl, k5⟩
      have hl5 := hl4.below k5 hl4.lt
      have k15 := k14.trans (k5.mono k14.size)
      have c5 := bad_any (w := w5) sab hl5
      rw [e6] at c5
      go_wp2_with fail
      refine c5.mono ?_
      rintro e w6 ⟨rfl, k6⟩
      have hl6 := hl5.below k6 hl5.lt
      have k16 := k15.trans (k6.mono k15.size)
      have c6 := bad_any (w := w6) sb hl6
      rw [e5] at c6
      go_wp2_with fail
      refine c6.mono ?_
      rintro e w7 ⟨rfl, k7⟩
      go_wp2_with fail
      go_ret
      exact ⟨rfl, k16.trans (k7.mono k16.size)⟩
  · have e1 : decide (badI a.data.toList < 0) = false := decide_eq_false (fun h => hva ((badI_neg _).1 h))
    go_enter Tryd.func6, Tryd.ntmps6
    go_wp2_with fail
    refine hw.mono ?_
    rintro e w1 ⟨rfl, k1⟩
    have hl1 := hl.below k1 hl.lt
    have c1 := valid_any (w := w1) sa hl1
    rw [e1] at c1
    go_wp2_with fail
    refine c1.mono ?_
    rintro e w2 ⟨rfl, k2⟩
    go_wp2_with fail
    go_ret
    exact ⟨rfl, k1.trans (k2.mono k1.size)⟩
end Go.Proofs.YtheohchmjgmpnaaDoor.Utf
