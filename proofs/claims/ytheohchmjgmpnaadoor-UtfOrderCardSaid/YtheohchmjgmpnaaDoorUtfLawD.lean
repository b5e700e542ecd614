/- The walk of UtfAll. Nothing is claimed here. -/
import Derived.Test.YtheohchmjgmpnaaDoorUtfLawA
import Derived.Deep.RegionHeld3
namespace Go.Proofs.YtheohchmjgmpnaaDoor.Utf
open Go.RowKit Kit Go.Shelf

theorem rd_take {w : World} {a : Option Addr} {n c : Nat} {xs : List (Nat × Nat)} (h : Rd w (.slice a n c) xs) {m : Nat} (hm : m ≤ xs.length) : Rd w (.slice a m c) (xs.take m) := by
  obtain ⟨a', c', he, h⟩ := h
  injection he with e1 e2 e3
  subst e1; subst e3
  refine ⟨a, c, by rw [List.length_take, Nat.min_eq_left hm], ?_⟩
  rcases h with h | ⟨g, off, ha, hg, hc⟩
  · exact .inl (by rw [h]; simp)
  · refine .inr ⟨g, off, ha, hg, fun i x hx => hc i x ?_⟩
    rw [List.getElem?_take] at hx
    split at hx
    · exact hx
    · cases hx

theorem below_step {w a b : World} (h : Below w.heap.size w a) (k : Below a.heap.size a b) : Below w.heap.size w b := h.trans (k.mono h.size)

theorem own_cap {w : World} {base : Nat} {e : TypeId} {size : Nat} {v : Value} {n : Nat} {xs : List Value} (h : w.ownsRow base e size v n xs) : ∃ a c, v = .slice a n c ∧ n ≤ c := by
  rcases h.2 with ⟨rfl, rfl⟩ | ⟨g, cap, _, rfl, _, _, hc, _⟩
  · exact ⟨_, _, rfl, Nat.le_refl _⟩
  · exact ⟨_, _, rfl, hc⟩

theorem told_rd {w : World} {s : ByteArray} {most : Int} (hs : s.size < 1000000000) (hl : Laid w) :
    Calls Tryd.prog 13 #[.string s, .int .i64 most] w fun e w' => ∃ a N c, e = .returned (.slice a N c) ∧ Rd w' (.slice a N c) ((all s.data.toList).take most.toNat) ∧ Below w.heap.size w w' := by
  refine (told_any hs hl).mono fun e w' => ?_
  rintro ⟨v, rfl, ho, hb⟩
  have h := rd_of_own ho
  obtain ⟨a, c, rfl, _⟩ := own_cap ho
  exact ⟨a, _, c, rfl, h, hb⟩

/-- What is held over a call. -/
theorem step_all {w a b : World} {va : Option Addr} {n vc : Nat} {L : List (Nat × Nat)} (h : Laid a ∧ Rd a (.slice va n vc) L ∧ Below w.heap.size w a) (k : Below a.heap.size a b) : Laid b ∧ Rd b (.slice va n vc) L ∧ Below w.heap.size w b :=
  ⟨h.1.below k h.1.lt, h.2.1.below k, below_step h.2.2 k⟩

theorem same_take {w : World} {v : Value} {va : Option Addr} {vc m k : Nat} {L : List (Nat × Nat)} (hd : Rd w v (L.take k)) (hr : Rd w (.slice va L.length vc) L) (hL : L.length < 1000000000) (hm : m ≤ L.length) (hk : L.take k = L.take m) :
    Calls Tryd.prog 12 #[v, .slice va m vc] w fun e w' => e = .returned (.bool true) ∧ Below w.heap.size w w' := by
  rw [hk] at hd
  have h1 : (L.take m).length < 1000000000 := by rw [List.length_take]; omega
  have := same_any hd (rd_take hr hm) h1 h1
  rwa [decide_eq_true rfl] at this
set_option maxHeartbeats 4000000 in
theorem all_law {w : World} {s : ByteArray} {st : Int} (hl : Laid w) (h1 : 0 ≤ st) (h2 : st ≤ 255) : Calls Tryd.prog 5 #[.string s, .int .u8 st] w fun e w' => e = .returned (.bool true) ∧ Below w.heap.size w w' := by
  have hw := wakes_any hl
  by_cases hs : 1000 < s.size
  · have hs' : (1000 : Int) < (s.size : Int) := by omega
    go_enter Tryd.func5, Tryd.ntmps5
    go_wp2_with fail
    refine hw.mono ?_
    rintro e w1 ⟨rfl, k1⟩
    go_wp2_with fail
    go_ret
    exact ⟨rfl, k1⟩
  · have hs' : decide ((1000 : Int) < (s.size : Int)) = false := by simp; omega
    have hs9 : s.size < 1000000000 := by omega
    have hal : (all s.data.toList).length ≤ 1000 := by have := scan_len s.data.toList 0; simp at this; unfold all; omega
    obtain ⟨n, rfl⟩ := Int.eq_ofNat_of_zero_le h1
    have hal' : (all s.data.toList).length ≤ (9999 : Int).toNat := by
      have : (9999 : Int).toNat = 9999 := rfl
      omega
    by_cases hc : n < (all s.data.toList).length
    · have hc' : (n : Int) < ((all s.data.toList).length : Int) := by omega
      go_enter Tryd.func5, Tryd.ntmps5
      go_wp2_with fail
      refine hw.mono ?_
      rintro e w1 ⟨rfl, k1⟩
      have hl1 := hl.below k1 hl.lt
      go_wp2_with fail
      refine (rall_any (w := w1) hs9).mono ?_
      rintro e w2 ⟨v, rfl, ho, k2⟩
      have hl2 := hl1.below k2 hl1.lt
      have k12 := k1.trans (k2.mono k1.size)
      have hr := rd_of_own ho
      obtain ⟨va, vc, rfl, hcap⟩ := own_cap ho
      have hcap1 : (n : Int) ≤ (vc : Int) := by omega
      clear ho
      have hxl : (all s.data.toList).length < 1000000000 := by omega
      have hml : n ≤ (all s.data.toList).length := by omega
      have h9 : (all s.data.toList).take (9999 : Int).toNat = (all s.data.toList).take (all s.data.toList).length := by rw [List.take_of_length_le hal', List.take_length]
      go_wp2_with fail
      go_region_held3 (fun wx => Laid wx ∧ Rd wx (.slice va (all s.data.toList).length vc) (all s.data.toList) ∧ Below w.heap.size w wx)
        (first | exact ⟨hl2, hr, below_drewN k12 1⟩ | exact ⟨by assumption, by assumption, by assumption⟩ | assumption)
        (first | (go_at_call 13; refine (told_rd hs9 (by first | exact nl | exact hl2)).mono ?_; rintro e wx ⟨wa, wN, wc, rfl, nd, kx⟩; have nS := step_all (w := w) (va := va) (n := (all s.data.toList).length) (vc := vc) (L := all s.data.toList) (by assumption) kx; obtain ⟨nl, nr, nb⟩ := nS) | (go_at_call 12; refine (same_take nd nr hxl (by first | exact Nat.le_refl _ | exact hml) (by first | exact h9 | rfl)).mono ?_; rintro e wx ⟨rfl, kx⟩; have nS := step_all (w := w) (va := va) (n := (all s.data.toList).length) (vc := vc) (L := all s.data.toList) (by assumption) kx; obtain ⟨nl, nr, nb⟩ := nS))
      go_wp2_with fail
      go_ret
      exact ⟨rfl, nb⟩
    · by_cases he : n = (all s.data.toList).length
      · subst he
        go_enter Tryd.func5, Tryd.ntmps5
        go_wp2_with fail
        refine hw.mono ?_
        rintro e w1 ⟨rfl, k1⟩
        have hl1 := hl.below k1 hl.lt
        go_wp2_with fail
        refine (rall_any (w := w1) hs9).mono ?_
        rintro e w2 ⟨v, rfl, ho, k2⟩
        have hl2 := hl1.below k2 hl1.lt
        have k12 := k1.trans (k2.mono k1.size)
        have hr := rd_of_own ho
        obtain ⟨va, vc, rfl, hcap⟩ := own_cap ho
        have hcap1 : ((all s.data.toList).length : Int) ≤ (vc : Int) := by omega
        clear ho
        have hxl : (all s.data.toList).length < 1000000000 := by omega
        have hml : (all s.data.toList).length ≤ (all s.data.toList).length := Nat.le_refl _
        have h9 : (all s.data.toList).take (9999 : Int).toNat = (all s.data.toList).take (all s.data.toList).length := by rw [List.take_of_length_le hal', List.take_length]
        go_wp2_with fail
        go_region_held3 (fun wx => Laid wx ∧ Rd wx (.slice va (all s.data.toList).length vc) (all s.data.toList) ∧ Below w.heap.size w wx)
          (first | exact ⟨hl2, hr, below_drewN k12 1⟩ | exact ⟨by assumption, by assumption, by assumption⟩ | assumption)
          (first | (go_at_call 13; refine (told_rd hs9 (by first | exact nl | exact hl2)).mono ?_; rintro e wx ⟨wa, wN, wc, rfl, nd, kx⟩; have nS := step_all (w := w) (va := va) (n := (all s.data.toList).length) (vc := vc) (L := all s.data.toList) (by assumption) kx; obtain ⟨nl, nr, nb⟩ := nS) | (go_at_call 12; refine (same_take nd nr hxl (by first | exact Nat.le_refl _ | exact hml) (by first | exact h9 | rfl)).mono ?_; rintro e wx ⟨rfl, kx⟩; have nS := step_all (w := w) (va := va) (n := (all s.data.toList).length) (vc := vc) (L := all s.data.toList) (by assumption) kx; obtain ⟨nl, nr, nb⟩ := nS))
        go_wp2_with fail
        go_ret
        exact ⟨rfl, nb⟩
      · have hc' : ((all s.data.toList).length : Int) < (n : Int) := by omega
        go_enter Tryd.func5, Tryd.ntmps5
        go_wp2_with fail
        refine hw.mono ?_
        rintro e w1 ⟨rfl, k1⟩
        have hl1 := hl.below k1 hl.lt
        go_wp2_with fail
        refine (rall_any (w := w1) hs9).mono ?_
        rintro e w2 ⟨v, rfl, ho, k2⟩
        have hl2 := hl1.below k2 hl1.lt
        have k12 := k1.trans (k2.mono k1.size)
        have hr := rd_of_own ho
        obtain ⟨va, vc, rfl, hcap⟩ := own_cap ho
        have hcap1 : ((all s.data.toList).length : Int) ≤ (vc : Int) := by omega
        clear ho
        have hxl : (all s.data.toList).length < 1000000000 := by omega
        have hml : (all s.data.toList).length ≤ (all s.data.toList).length := Nat.le_refl _
        have h9 : (all s.data.toList).take (9999 : Int).toNat = (all s.data.toList).take (all s.data.toList).length := by rw [List.take_of_length_le hal', List.take_length]
        go_wp2_with fail
        go_region_held3 (fun wx => Laid wx ∧ Rd wx (.slice va (all s.data.toList).length vc) (all s.data.toList) ∧ Below w.heap.size w wx)
          (first | exact ⟨hl2, hr, below_drewN k12 1⟩ | exact ⟨by assumption, by assumption, by assumption⟩ | assumption)
          (first | (go_at_call 13; refine (told_rd hs9 (by first | exact nl | exact hl2)).mono ?_; rintro e wx ⟨wa, wN, wc, rfl, nd, kx⟩; have nS := step_all (w := w) (va := va) (n := (all s.data.toList).length) (vc := vc) (L := all s.data.toList) (by assumption) kx; obtain ⟨nl, nr, nb⟩ := nS) | (go_at_call 12; refine (same_take nd nr hxl (by first | exact Nat.le_refl _ | exact hml) (by first | exact h9 | rfl)).mono ?_; rintro e wx ⟨rfl, kx⟩; have nS := step_all (w := w) (va := va) (n := (all s.data.toList).length) (vc := vc) (L := all s.data.toList) (by assumption) kx; obtain ⟨nl, nr, nb⟩ := nS))
        go_wp2_with fail
        go_ret
        exact ⟨rfl, nb⟩
end Go.Proofs.YtheohchmjgmpnaaDoor.Utf
