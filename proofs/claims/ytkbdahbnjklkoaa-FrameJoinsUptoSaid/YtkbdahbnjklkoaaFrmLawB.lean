/- The walk of FramePuts, over the contracts of package frame. Nothing is claimed here. -/
import Derived.Test.YtkbdahbnjklkoaaFrmLawA
namespace Go.Proofs.Ytkbdahbnjklkoaa.Frm
open Go.RowKit Kit Byt Var Sls

theorem ss_at {w : World} {a : Option Addr} {n c k : Nat} {ls : List (List Nat)} (h : Ss w (.slice a n c) ls) (hk : k < ls.length) : ∃ g o ua uc, a = some ⟨g, o, none⟩ ∧ g < w.heap.size ∧ w.cell? ⟨g, o + k, none⟩ = some (.slice ua ls[k].length uc) ∧ Bs w (.slice ua ls[k].length uc) ls[k] := by
  obtain ⟨_, _, he, _, hc⟩ := h
  injection he with e1 _ _
  subst e1
  obtain ⟨g, o, rfl, hg, hc⟩ := hc.resolve_left (fun e => by rw [e] at hk; simp at hk)
  obtain ⟨u, hu, hb⟩ := hc k ls[k] (List.getElem?_eq_getElem hk)
  obtain ⟨_, ua, uc, rfl, _⟩ := id hb
  exact ⟨g, o, ua, uc, rfl, hg, hu, hb⟩

set_option maxRecDepth 100000 in
set_option maxHeartbeats 4000000 in
theorem puts_law {w : World} {a : Option Addr} {n c : Nat} {ls : List (List Nat)} {cut : Int} (hn : ls.length = n) (hx : Ss w (.slice a n c) ls) (hc0 : 0 ≤ cut) (hc1 : cut ≤ 65535) :
    Calls Try.prog 5 #[.slice a n c, .int .u16 cut] w fun e w' => e = .returned (.bool true) ∧ Below w.heap.size w w' := by
  have hw := wakes_any (w := w)
  obtain ⟨cut, rfl⟩ := Int.eq_ofNat_of_zero_le hc0
  by_cases hs : 20 < n ∨ n = 0
  · have hcase : decide ((20 : Int) < (n : Int)) = true ∨ (decide ((20 : Int) < (n : Int)) = false ∧ ((n : Int) == 0) = true) := by
      simp
      omega
    clear hs hn
    rcases hcase with h | ⟨h, h'⟩
    all_goals
      go_enter Try.func5, Try.ntmps5
      go_wp2_with fail
      refine hw.mono ?_
      rintro e w1 ⟨rfl, k1⟩
      go_wp2_with fail
      go_ret
      exact ⟨rfl, k1⟩
  have hs1 : decide ((20 : Int) < (n : Int)) = false := by simp; omega
  have hs2 : ((n : Int) == 0) = false := by simp; omega
  have hn20 : n ≤ 20 := by omega
  have hn0 : 0 < n := by omega
  have H0 := Lib.hid hn
  clear hs hn
  go_enter Try.func5, Try.ntmps5
  go_wp2_with fail
  refine hw.mono ?_
  rintro e w1 ⟨rfl, k1⟩
  have hx1 := hx.below k1
  go_wp2_with fail
  go_loopw [28] (fun i wr => ∃ k : Nat, k ≤ n ∧ i = .int .i64 k ∧ (∀ j (hj : j < ls.length), j < k → ls[j].length ≤ 300) ∧ wr = w1) (fun i _ => n - (intOf i).toNat)
  case atStart => exact ⟨0, Nat.zero_le _, rfl, fun j _ h => by omega, rfl⟩
  case round =>
    obtain ⟨k, hk, rfl, hall, rfl⟩ := hrel
    by_cases hlt : k < n
    · have hkl : k < ls.length := by rw [H0.out]; exact hlt
      obtain ⟨g, o, ua, uc, rfl, hg, hcell, _⟩ := ss_at hx1 hkl
      have hlt' : (k : Int) < (n : Int) := by omega
      obtain ⟨m, hm⟩ : ∃ m, ls[k].length = m := ⟨_, rfl⟩
      rw [hm] at hcell
      have HA := Lib.hid hall
      have HM := Lib.hid hm
      clear hall hm
      by_cases h3 : 300 < m
      · have h3' : decide ((300 : Int) < (m : Int)) = true := by simp; omega
        go_wp2_with fail
        go_ret
        exact ⟨rfl, k1⟩
      · have h3' : decide ((300 : Int) < (m : Int)) = false := by simp; omega
        go_wp2_with fail
        go_roundw
        case rel =>
          refine ⟨k + 1, by omega, by go_num, fun j hj hjk => ?_, by first | rfl | trivial⟩
          rcases Nat.lt_succ_iff_lt_or_eq.1 hjk with h | rfl
          · exact HA.out j hj h
          · rw [HM.out]; omega
        case measure => simp [intOf]; omega
    · obtain rfl : n = k := by omega
      have h300 : ∀ b ∈ ls, b.length ≤ 300 := by
        intro b hb
        obtain ⟨j, hj, rfl⟩ := List.getElem_of_mem hb
        exact hall j hj (by rw [← H0.out]; exact hj)
      have hsm := puts_small (m := 300) (by omega) ls h300
      have hpos := puts_ge ls
      rw [H0.out] at hsm hpos
      have hsp := split_puts ls (puts ls) 0 rfl (fun b hb => by have := h300 b hb; omega)
      have hcutf := fun j => split_cut ls ((puts ls).take j) 0 j rfl (fun b hb => by have := h300 b hb; omega)
      obtain ⟨N, hN⟩ : ∃ N, (puts ls).length = N := ⟨_, rfl⟩
      rw [hN] at hsm hpos
      have H1 := Lib.hid hN
      have H2 := Lib.hid hsp
      have H3 := Lib.hid hcutf
      have H4 := Lib.hid h300
      clear hall hsp hcutf hN h300
      have hp2 := fput_any hx1 (by rw [H1.out]; omega)
      go_wp2_with fail
      refine hp2.mono ?_
      rintro e w2 ⟨pa, pn, pc, rfl, hpn, _, hb2, k2⟩
      rw [H1.out] at hpn
      subst hpn
      have b2 := k1.trans (k2.mono k1.size)
      have hx2 := hx1.below k2
      have hs3 := fsplit_any hb2 (by rw [H1.out]; omega)
      rw [H2.out] at hs3
      clear hp2
      go_wp2_with fail
      refine hs3.mono ?_
      rintro e w3 ⟨sa, sn, sc, rfl, hs3', k3⟩
      have b3 := b2.trans (k3.mono b2.size)
      have hx3 := hx2.below k3
      have hb3 := hb2.below k3
      obtain rfl : n = sn := by
        obtain ⟨_, _, he, _⟩ := id hs3'
        injection he with _ e2 _
        exact H0.out.symm.trans e2.symm
      clear hs3
      have hr4 := rputs_any hx3 (by rw [H1.out]; omega)
      go_wp2_with fail
      refine hr4.mono ?_
      rintro e w4 ⟨rv, rfl, hr5, k4⟩
      have b4 := b3.trans (k4.mono b3.size)
      have hx4 := hx3.below k4
      have hb4 := hb3.below k4
      have hs4 := hs3'.below k4
      have h5 := same_is rfl hb4 hr5 (by rw [H1.out]; omega) (by rw [H1.out]; omega)
      clear hr4
      go_wp2_with fail
      refine h5.mono ?_
      rintro e w5 ⟨rfl, k5⟩
      have b5 := b4.trans (k5.mono b4.size)
      have hx5 := hx4.below k5
      have hb5 := hb4.below k5
      have hs5 := hs4.below k5
      clear h5
      go_wp2_with fail
      go_loopw [61] (fun i wr => ∃ k : Nat, k ≤ n ∧ i = .int .i64 k ∧ Below w5.heap.size w5 wr) (fun i _ => n - (intOf i).toNat)
      case atStart => exact ⟨0, Nat.zero_le _, rfl, Below.refl _ _⟩
      case round =>
        obtain ⟨k, hk, rfl, hbel⟩ := hrel
        by_cases hlt : k < n
        · have hkl : k < ls.length := by rw [H0.out]; exact hlt
          obtain ⟨g1, o1, u1, c1, rfl, hg1, hc1, hu1⟩ := ss_at hs5 hkl
          obtain ⟨g2, o2, u2, c2, rfl, hg2, hc2, hu2⟩ := ss_at hx5 hkl
          have hlk : ls[k].length < 1000000000 := by have := H4.out ls[k] (List.getElem_mem hkl); omega
          have f1 := (hbel.cell (p := ⟨g1, o1 + k, none⟩) hg1).trans hc1
          have f2 := (hbel.cell (p := ⟨g2, o2 + k, none⟩) hg2).trans hc2
          have hS := same_is rfl ((hu1.below hbel).below (below_drewN (Below.refl _ wr) 1)) ((hu2.below hbel).below (below_drewN (Below.refl _ wr) 1)) hlk hlk
          have hg1r : g1 < wr.heap.size := Nat.lt_of_lt_of_le hg1 hbel.size
          have hg2r : g2 < wr.heap.size := Nat.lt_of_lt_of_le hg2 hbel.size
          have hlt' : (k : Int) < (n : Int) := by omega
          clear hc1 hc2 hu1 hu2
          generalize ls[k].length = M at *
          go_wp2_with fail
          go_region_held3 (fun wx => wx.cell? ⟨g1, o1 + k, none⟩ = some (.slice u1 M c1) ∧ wx.cell? ⟨g2, o2 + k, none⟩ = some (.slice u2 M c2))
            (first | assumption | go_keep)
            (first | (go_at_call 14; refine hS.mono ?_; rintro e wx ⟨rfl, kx⟩; have n1 := (kx.cell (p := ⟨g1, o1 + k, none⟩) hg1r).trans f1; have n2 := (kx.cell (p := ⟨g2, o2 + k, none⟩) hg2r).trans f2; have bx := hbel.trans ((below_drewN (Below.refl wr.heap.size wr) 1).mono hbel.size |>.trans (kx.mono hbel.size))))
          go_wp2_with fail
          go_roundw
          case rel => exact ⟨k + 1, by omega, by go_num, bx⟩
          case measure => simp [intOf]; omega
        · obtain rfl : n = k := by omega
          obtain ⟨j, hj⟩ : ∃ j, cut % pn = j := ⟨_, rfl⟩
          have hjp : j < pn := by rw [← hj]; exact Nat.mod_lt _ (by omega)
          have hrem : (cut : Int) % (pn : Int) = (j : Int) := by rw [← hj]; simp
          have hpc : (j : Int) ≤ (pc : Int) := by
            obtain ⟨_, _, _, he, hc, _⟩ := id hb5
            injection he with _ e2 e3
            omega
          have hp0' : (0 : Int) < (pn : Int) := by omega
          have hb6 := (hb5.below hbel).take (m := j) (by rw [H1.out]; omega)
          obtain ⟨l2, E2, hT2⟩ : ∃ l2 E2, split ((puts ls).take j) 0 = (l2, E2) := ⟨_, _, rfl⟩
          have hE2 := H3.out j
          rw [hT2] at hE2
          have h7 := fsplit_any hb6 (by rw [List.length_take, H1.out]; omega)
          rw [hT2] at h7
          dsimp only at hE2
          have hjl : ((puts ls).take j).length = j := by rw [List.length_take, H1.out]; omega
          have HT := Lib.hid hT2
          have HJ := Lib.hid hjl
          have hEc : ((E2 : Int) == 0) = true ∨ (((E2 : Int) == 0) = false ∧ ((E2 : Int) == 2) = true) := by
            simp
            omega
          clear hj hT2 hjl hE2
          have b6 := b5.trans (hbel.mono b5.size)
          go_wp2_with fail
          refine h7.mono ?_
          rintro e w8 ⟨ta, tn, tc, rfl, _, k8⟩
          have b8 := b6.trans (k8.mono b6.size)
          have h9 := rsplit_is HJ.out (hb6.below k8) (by omega) HT.out
          clear h7
          go_wp2_with fail
          refine h9.mono ?_
          rintro e w9 ⟨qa, qn, qc, rfl, _, k9⟩
          have b9 := b8.trans (k9.mono b8.size)
          clear h9
          rcases hEc with h | ⟨h, h'⟩
          all_goals
            go_wp2_with fail
            go_ret
            exact ⟨by simp, b9⟩
end Go.Proofs.Ytkbdahbnjklkoaa.Frm
