/- The walk of UtfOrder. Nothing is claimed here. -/
import Derived.Test.YtheohchmjgmpnaaDoorUtfLawD
namespace Go.Proofs.YtheohchmjgmpnaaDoor.Utf
open Go.RowKit Kit Go.Shelf

theorem lessN_at : ∀ (k : Nat) (xs ys : List Nat), (∀ j, j < k → xs[j]? = ys[j]?) → (h1 : k < xs.length) → (h2 : k < ys.length) → xs[k] ≠ ys[k] → lessN xs ys = decide (xs[k] < ys[k])
  | 0, x :: xs, y :: ys, _, _, _, hne => by
    simp only [List.getElem_cons_zero] at hne ⊢
    simp [lessN, hne]
  | k + 1, x :: xs, y :: ys, h, h1, h2, hne => by
    have h0 := h 0 (by omega)
    simp only [List.getElem?_cons_zero, Option.some.injEq] at h0
    subst h0
    have := lessN_at k xs ys (fun j hj => by have := h (j + 1) (by omega); simpa using this) (by simpa using h1) (by simpa using h2) (by simpa using hne)
    simpa [lessN] using this
  | _, [], _, _, h1, _, _ => by simp at h1
  | _, _ :: _, [], _, _, h2, _ => by simp at h2

theorem lessN_len : ∀ (xs ys : List Nat), (∀ j, j < xs.length → j < ys.length → xs[j]? = ys[j]?) → lessN xs ys = decide (xs.length < ys.length) ∧ (xs = ys ↔ xs.length = ys.length)
  | [], [], _ => by simp [lessN]
  | [], y :: ys, _ => by simp [lessN]
  | x :: xs, [], _ => by simp [lessN]
  | x :: xs, y :: ys, h => by
    have h0 := h 0 (by simp) (by simp)
    simp only [List.getElem?_cons_zero, Option.some.injEq] at h0
    subst h0
    have := lessN_len xs ys (fun j h1 h2 => by have := h (j + 1) (by simpa using h1) (by simpa using h2); simpa using this)
    simp [lessN, this.1, this.2]

theorem told_full {w : World} {s : ByteArray} (hs : s.size < 1000000000) (hl : Laid w) (h : (all s.data.toList).length ≤ 9999) :
    Calls Tryd.prog 13 #[.string s, .int .i64 9999] w fun e w' => ∃ a c, e = .returned (.slice a (all s.data.toList).length c) ∧ Rd w' (.slice a (all s.data.toList).length c) (all s.data.toList) ∧ Below w.heap.size w w' := by
  refine (told_any hs hl).mono fun e w' => ?_
  rw [List.take_of_length_le (show (all s.data.toList).length ≤ (9999 : Int).toNat from h)]
  rintro ⟨v, rfl, ho, hb⟩
  have h := rd_of_own ho
  obtain ⟨a, c, rfl, _⟩ := own_cap ho
  exact ⟨a, c, rfl, h, hb⟩

/-- At the first place at which the scalars differ. -/
theorem order_at {a b : ByteArray} (o1 : Op.bytesLess a.toList b.toList = lessN ((all a.data.toList).map (·.2)) ((all b.data.toList).map (·.2)))
    (o2 : a.data.toList = b.data.toList ↔ (all a.data.toList).map (·.2) = (all b.data.toList).map (·.2)) {k : Nat} (h : ∀ j, j < k → ((all a.data.toList).map (·.2))[j]? = ((all b.data.toList).map (·.2))[j]?)
    (h1 : k < (all a.data.toList).length) (h2 : k < (all b.data.toList).length) (hne : (all a.data.toList)[k].2 ≠ (all b.data.toList)[k].2) :
    Op.bytesLess a.toList b.toList = decide ((all a.data.toList)[k].2 < (all b.data.toList)[k].2) ∧ (a.toList == b.toList) = false := by
  have := lessN_at k _ _ h (by simpa using h1) (by simpa using h2) (by simpa using hne)
  refine ⟨by rw [o1, this]; simp, ?_⟩
  rw [ByteArray.toList_eq, ByteArray.toList_eq]
  refine beq_false_of_ne fun e => hne ?_
  have hm := o2.1 e
  have h3 : ((all a.data.toList).map (·.2))[k]? = ((all b.data.toList).map (·.2))[k]? := by rw [hm]
  simpa [List.getElem?_eq_getElem h1, List.getElem?_eq_getElem h2] using h3

/-- Where they differ nowhere as far as both go. -/
theorem order_end {a b : ByteArray} (o1 : Op.bytesLess a.toList b.toList = lessN ((all a.data.toList).map (·.2)) ((all b.data.toList).map (·.2)))
    (o2 : a.data.toList = b.data.toList ↔ (all a.data.toList).map (·.2) = (all b.data.toList).map (·.2)) (h : ∀ j, j < (all a.data.toList).length → j < (all b.data.toList).length → ((all a.data.toList).map (·.2))[j]? = ((all b.data.toList).map (·.2))[j]?) :
    Op.bytesLess a.toList b.toList = decide ((all a.data.toList).length < (all b.data.toList).length) ∧ (a.toList == b.toList) = decide ((all a.data.toList).length = (all b.data.toList).length) := by
  have := lessN_len ((all a.data.toList).map (·.2)) ((all b.data.toList).map (·.2)) (fun j h1 h2 => h j (by simpa using h1) (by simpa using h2))
  simp only [List.length_map] at this
  refine ⟨by rw [o1, this.1], ?_⟩
  rw [ByteArray.toList_eq, ByteArray.toList_eq, Bool.eq_iff_iff, beq_iff_eq, decide_eq_true_eq, o2, this.2]

set_option maxHeartbeats 4000000 in
theorem order_law {w : World} {a b : ByteArray} (hl : Laid w) : Calls Tryd.prog 7 #[.string a, .string b] w fun e w' => e = .returned (.bool true) ∧ Below w.heap.size w w' := by
  have hw := wakes_any hl
  by_cases ha : 500 < a.size
  · have ha' : (500 : Int) < (a.size : Int) := by omega
    go_enter Tryd.func7, Tryd.ntmps7
    go_wp2_with fail
    refine hw.mono ?_
    rintro e w1 ⟨rfl, k1⟩
    go_wp2_with fail
    go_ret
    exact ⟨rfl, k1⟩
  have ha' : decide ((500 : Int) < (a.size : Int)) = false := by simp; omega
  by_cases hb : 500 < b.size
  · have hb' : (500 : Int) < (b.size : Int) := by omega
    go_enter Tryd.func7, Tryd.ntmps7
    go_wp2_with fail
    refine hw.mono ?_
    rintro e w1 ⟨rfl, k1⟩
    go_wp2_with fail
    go_ret
    exact ⟨rfl, k1⟩
  have hb' : decide ((500 : Int) < (b.size : Int)) = false := by simp; omega
  have sa : a.size < 4611686018427387904 := by omega
  have sb : b.size < 4611686018427387904 := by omega
  by_cases hva : bad a.data.toList = none
  · have e1 : decide (badI a.data.toList < 0) = true := decide_eq_true ((badI_neg _).2 hva)
    by_cases hvb : bad b.data.toList = none
    · have e2 : decide (badI b.data.toList < 0) = true := decide_eq_true ((badI_neg _).2 hvb)
      obtain ⟨o0, o2⟩ := order a.data.toList b.data.toList 0 0 hva hvb
      have o1 : Op.bytesLess a.toList b.toList = lessN ((all a.data.toList).map (·.2)) ((all b.data.toList).map (·.2)) := by rw [ByteArray.toList_eq, ByteArray.toList_eq]; exact o0
      clear o0
      have hal : (all a.data.toList).length ≤ 500 := by have := scan_len a.data.toList 0; simp at this; unfold all; omega
      have hbl : (all b.data.toList).length ≤ 500 := by have := scan_len b.data.toList 0; simp at this; unfold all; omega
      go_enter Tryd.func7, Tryd.ntmps7
      go_wp2_with fail
      refine hw.mono ?_
      rintro e w1 ⟨rfl, k1⟩
      have hl1 := hl.below k1 hl.lt
      have c1 := rvalid_any (w := w1) sa
      rw [e1] at c1
      go_wp2_with fail
      refine c1.mono ?_
      rintro e w2 ⟨rfl, k2⟩
      have hl2 := hl1.below k2 hl1.lt
      have k12 := k1.trans (k2.mono k1.size)
      have c2 := rvalid_any (w := w2) sb
      rw [e2] at c2
      go_wp2_with fail
      refine c2.mono ?_
      rintro e w3 ⟨rfl, k3⟩
      have hl3 := hl2.below k3 hl2.lt
      have k13 := k12.trans (k3.mono k12.size)
      clear c1 c2 e1 e2
      go_wp2_with fail
      refine (told_full (w := w3) (by omega) hl3 (by omega)).mono ?_
      rintro e w4 ⟨xa, xc, rfl, rx, k4⟩
      have hl4 := hl3.below k4 hl3.lt
      have k14 := k13.trans (k4.mono k13.size)
      go_wp2_with fail
      refine (told_full (w := w4) (by omega) hl4 (by omega)).mono ?_
      rintro e w5 ⟨ya, yc, rfl, ry, k5⟩
      have k15 := k14.trans (k5.mono k14.size)
      have rx5 := rx.below k5
      change a.data.toList = b.data.toList ↔ (all a.data.toList).map (·.2) = (all b.data.toList).map (·.2) at o2
      clear hw ha ha' hb hb' sa sb hva hvb
      go_wp2_with fail
      go_loopw [7] (fun i wr => ∃ k : Nat, k ≤ (all a.data.toList).length ∧ k ≤ (all b.data.toList).length ∧ i = .int .i64 k ∧ (∀ j, j < k → ((all a.data.toList).map (·.2))[j]? = ((all b.data.toList).map (·.2))[j]?) ∧ Below w5.heap.size w5 wr) (fun i _ => (all a.data.toList).length - (intOf i).toNat)
      case atStart => exact ⟨0, Nat.zero_le _, Nat.zero_le _, rfl, fun j h => by omega, Below.refl _ _⟩
      case round =>
        obtain ⟨k, hkx, hky, rfl, heq, hbel5⟩ := hrel
        have hbel := k15.trans (hbel5.mono k15.size)
        by_cases hx : k < (all a.data.toList).length
        · by_cases hy : k < (all b.data.toList).length
          · have hx' : (k : Int) < ((all a.data.toList).length : Int) := by omega
            have hy' : (k : Int) < ((all b.data.toList).length : Int) := by omega
            obtain ⟨xa', xc', xe, xh⟩ := rx5.below hbel5
            obtain ⟨ya', yc', ye, yh⟩ := ry.below hbel5
            injection xe with xe1 xe2 xe3
            injection ye with ye1 ye2 ye3
            subst xe1; subst xe3; subst ye1; subst ye3
            obtain ⟨g, off, rfl, hg, hcx⟩ := xh.resolve_left (fun e => by rw [e] at hx; simp at hx)
            obtain ⟨g', off', rfl, hg', hcy⟩ := yh.resolve_left (fun e => by rw [e] at hy; simp at hy)
            have p1 := (hcx k _ (List.getElem?_eq_getElem hx)).2
            have p2 := (hcy k _ (List.getElem?_eq_getElem hy)).2
            clear hcx hcy xe2 ye2 xh yh rx rx5 ry hl1 hl2 hl3 hl4
            by_cases hab : (all a.data.toList)[k].2 = (all b.data.toList)[k].2
            · rw [← hab] at p2
              have hnext : ∀ j, j < k + 1 → ((all a.data.toList).map (·.2))[j]? = ((all b.data.toList).map (·.2))[j]? := fun j hj => by
                rcases Nat.lt_succ_iff_lt_or_eq.1 hj with h | rfl
                · exact heq j h
                · simp [List.getElem?_eq_getElem hx, List.getElem?_eq_getElem hy, hab]
              clear o1 o2 heq hab
              go_wp2_with fail
              go_quiet (fail)
              go_wp2_with fail
              go_roundw
              case rel => exact ⟨k + 1, hx, hy, by go_num, hnext, below_drewN hbel5 _⟩
              case measure => simp [intOf]; omega
            · obtain ⟨q1, q2⟩ := order_at o1 o2 heq hx hy hab
              have hab' : (((all a.data.toList)[k].2 : Int) == ((all b.data.toList)[k].2 : Int)) = false := by simp; omega
              clear o1 o2 heq
              by_cases hlt : (all a.data.toList)[k].2 < (all b.data.toList)[k].2
              · rw [decide_eq_true hlt] at q1
                have hlt' : ((all a.data.toList)[k].2 : Int) < ((all b.data.toList)[k].2 : Int) := by omega
                generalize (all a.data.toList)[k].2 = u1 at *
                generalize (all b.data.toList)[k].2 = u2 at *
                go_wp2_with fail
                go_quiet (fail)
                go_wp2_with fail
                go_quiet (fail)
                go_wp2_with fail
                go_ret
                exact ⟨rfl, below_drewN (below_drewN hbel _) _⟩
              · rw [decide_eq_false hlt] at q1
                have hlt' : decide (((all a.data.toList)[k].2 : Int) < ((all b.data.toList)[k].2 : Int)) = false := by simp; omega
                generalize (all a.data.toList)[k].2 = u1 at *
                generalize (all b.data.toList)[k].2 = u2 at *
                go_wp2_with fail
                go_quiet (fail)
                go_wp2_with fail
                go_quiet (fail)
                go_wp2_with fail
                go_ret
                exact ⟨rfl, below_drewN (below_drewN hbel _) _⟩
          · obtain rfl : k = (all b.data.toList).length := by omega
            have hx' : (((all b.data.toList).length : Nat) : Int) < ((all a.data.toList).length : Int) := by omega
            obtain ⟨q1, q2⟩ := order_end o1 o2 (fun j _ h2 => heq j h2)
            have z1 : ¬ (all a.data.toList).length < (all b.data.toList).length := by omega
            have z2 : ¬ (all a.data.toList).length = (all b.data.toList).length := by omega
            rw [decide_eq_false z1] at q1
            rw [decide_eq_false z2] at q2
            have z3 : (((all a.data.toList).length : Int) == ((all b.data.toList).length : Int)) = false := by simp; omega
            clear o1 o2 heq
            go_wp2_with fail
            go_ret
            exact ⟨by simp, hbel⟩
        · obtain rfl : k = (all a.data.toList).length := by omega
          obtain ⟨q1, q2⟩ := order_end o1 o2 (fun j h1 _ => heq j h1)
          by_cases z : (all a.data.toList).length = (all b.data.toList).length
          · rw [decide_eq_true z] at q2
            rw [decide_eq_false (show ¬ (all a.data.toList).length < (all b.data.toList).length by omega)] at q1
            rw [← z]
            clear o1 o2 heq
            go_wp2_with fail
            go_ret
            exact ⟨rfl, hbel⟩
          · have z1 : (all a.data.toList).length < (all b.data.toList).length := by omega
            have z2 : ((all a.data.toList).length : Int) < ((all b.data.toList).length : Int) := by omega
            rw [decide_eq_false z] at q2
            rw [decide_eq_true z1] at q1
            have z3 : (((all a.data.toList).length : Int) == ((all b.data.toList).length : Int)) = false := by simp; omega
            clear o1 o2 heq
            go_wp2_with fail
            go_ret
            exact ⟨by simp, hbel⟩
    · have e2 : decide (badI b.data.toList < 0) = false := decide_eq_false (fun h => hvb ((badI_neg _).1 h))
      go_enter Tryd.func7, Tryd.ntmps7
      go_wp2_with fail
      refine hw.mono ?_
      rintro e w1 ⟨rfl, k1⟩
      have c1 := rvalid_any (w := w1) sa
      rw [e1] at c1
      go_wp2_with fail
      refine c1.mono ?_
      rintro e w2 ⟨rfl, k2⟩
      have k12 := k1.trans (k2.mono k1.size)
      have c2 := rvalid_any (w := w2) sb
      rw [e2] at c2
      go_wp2_with fail
      refine c2.mono ?_
      rintro e w3 ⟨rfl, k3⟩
      go_wp2_with fail
      go_ret
      exact ⟨rfl, k12.trans (k3.mono k12.size)⟩
  · have e1 : decide (badI a.data.toList < 0) = false := decide_eq_false (fun h => hva ((badI_neg _).1 h))
    go_enter Tryd.func7, Tryd.ntmps7
    go_wp2_with fail
    refine hw.mono ?_
    rintro e w1 ⟨rfl, k1⟩
    have c1 := rvalid_any (w := w1) sa
    rw [e1] at c1
    go_wp2_with fail
    refine c1.mono ?_
    rintro e w2 ⟨rfl, k2⟩
    go_wp2_with fail
    go_ret
    exact ⟨rfl, k1.trans (k2.mono k1.size)⟩
end Go.Proofs.YtheohchmjgmpnaaDoor.Utf
