/- The walks of wakes and FrameSplits, over the contracts of package frame (XFrmFn: fput_any, fsplit_any). Nothing is claimed here. -/
import Derived.Test.YtkbdahbnjklkoaaFrmFn
import Derived.Deep.RegionHeld3
namespace Go.Proofs.Ytkbdahbnjklkoaa.Frm
open Go.RowKit Kit Byt Var Sls

theorem same_is {w : World} {v u : Value} {l m : List Nat} (e : l = m) (hx : Bs w v l) (hy : Bs w u m) (h1 : l.length < 1000000000) (h2 : m.length < 1000000000) :
    Calls Try.prog 14 #[v, u] w fun e w' => e = .returned (.bool true) ∧ Below w.heap.size w w' := by
  have := same_any hx hy h1 h2
  rwa [decide_eq_true e] at this

theorem puts_wake : puts [[97], []] = [1, 97, 0] := by
  have h1 : put 1 = [1] := put_lo (by omega)
  have h0 : put 0 = [0] := put_lo (by omega)
  simp [puts, h1, h0]

/-- Slices that a composite literal lays. -/
theorem ss_lit {w : World} {g : Nat} {cs : Array Value} {t : TypeId} {fr : Nat × Nat} {vs : List Value} {ls : List (List Nat)} (h : w.heap[g]? = some (.cells cs t fr)) (hc : cs.toList = vs) (hp : Parts w vs ls) : Ss w (.slice (some ⟨g, 0, none⟩) ls.length ls.length) ls := by
  refine ⟨_, _, rfl, Nat.le_refl _, .inr ⟨g, 0, rfl, lt_of_heap h, fun i l hi => ?_⟩⟩
  have hlt : i < vs.length := by rw [hp.1]; exact (List.getElem?_eq_some_iff.1 hi).1
  obtain ⟨x, h1⟩ : ∃ x, vs[i]? = some x := ⟨vs[i], List.getElem?_eq_getElem hlt⟩
  refine ⟨x, ?_, hp.2 i _ l h1 hi⟩
  rw [Nat.zero_add, cell_of h, ← Array.getElem?_toList, hc]
  exact h1

set_option maxRecDepth 100000 in
set_option maxHeartbeats 1000000 in
theorem wakes_any {w : World} : Calls Try.prog 7 #[] w fun e w' => e = .returned (.bool true) ∧ Below w.heap.size w w' := by
  have hs : Ss ((w.alloc (.cells #[.int .u8 97] 5)).alloc (.cells #[.slice (some ⟨w.heap.size, 0, none⟩) 1 1, .slice none 0 0] 22)) (.slice (some ⟨w.heap.size + 1, 0, none⟩) 2 2) [[97], []] := by
    have h1 := World.alloc_heap_new (w.alloc (.cells #[.int .u8 97] 5)) (.cells #[.slice (some ⟨w.heap.size, 0, none⟩) 1 1, .slice none 0 0] 22)
    rw [World.size_alloc] at h1
    have hb : Bs ((w.alloc (.cells #[.int .u8 97] 5)).alloc (.cells #[.slice (some ⟨w.heap.size, 0, none⟩) 1 1, .slice none 0 0] 22)) (.slice (some ⟨w.heap.size, 0, none⟩) 1 1) [97] := bs_lit (l := [97]) (new_of (World.alloc_heap_new w _) _) rfl (by decide)
    exact ss_lit (ls := [[97], []]) h1 rfl ((Parts.nil _).snoc hb |>.snoc (Bs.nil _))
  have b0 : Below w.heap.size w ((w.alloc (.cells #[.int .u8 97] 5)).alloc (.cells #[.slice (some ⟨w.heap.size, 0, none⟩) 1 1, .slice none 0 0] 22)) := ((Below.refl _ w).alloc (Nat.le_refl _) _).alloc (by simp) _
  have h1 := fput_any hs (by rw [puts_wake]; decide)
  rw [puts_wake] at h1
  go_enter Try.func7, Try.ntmps7
  go_wp2_with fail
  refine h1.mono ?_
  rintro e w1 ⟨va, N, vc, rfl, rfl, ho, hb1, k1⟩
  have b1 := b0.trans (k1.mono b0.size)
  have hx : Bs (w1.alloc (.cells #[.int .u8 1, .int .u8 97, .int .u8 0] 5)) (.slice (some ⟨w1.heap.size, 0, none⟩) 3 3) [1, 97, 0] := bs_lit (World.alloc_heap_new w1 _) rfl (by decide)
  have h3 := same_is rfl (hb1.below ((Below.refl _ w1).alloc (Nat.le_refl _) _)) hx (by decide) (by decide)
  go_wp2_with fail
  refine h3.mono ?_
  rintro e w3 ⟨rfl, k3⟩
  have b3 := (b1.alloc b1.size (.cells #[.int .u8 1, .int .u8 97, .int .u8 0] 5)).trans (k3.mono (by simp; have := b1.size; omega))
  go_wp2_with fail
  go_ret
  exact ⟨rfl, b3⟩

set_option maxRecDepth 100000 in
set_option maxHeartbeats 4000000 in
theorem splits_law {w : World} {a : Option Addr} {n c : Nat} {L : List Nat} (hn : L.length = n) (hx : Bs w (.slice a n c) L) :
    Calls Try.prog 4 #[.slice a n c] w fun e w' => e = .returned (.bool true) ∧ Below w.heap.size w w' := by
  have hw := wakes_any (w := w)
  by_cases hs : 500 < n
  · have hs' : (500 : Int) < (n : Int) := by omega
    go_enter Try.func4, Try.ntmps4
    go_wp2_with fail
    refine hw.mono ?_
    rintro e w1 ⟨rfl, k1⟩
    go_wp2_with fail
    go_ret
    exact ⟨rfl, k1⟩
  · have hs' : decide ((500 : Int) < (n : Int)) = false := by simp; omega
    obtain ⟨ls, E, hT⟩ : ∃ ls E, split L 0 = (ls, E) := ⟨_, _, rfl⟩
    have hputs := puts_split _ L 0 rfl hx.1 (Nat.zero_le _)
    rw [hT] at hputs
    dsimp only at hputs
    have H0 := Lib.hid hn
    have H1 := Lib.hid hputs
    have H2 := Lib.hid hT
    have hend : (((E : Int) != 0) = true) ∨ E = 0 := by
      simp
      omega
    clear hn hputs hT
    go_enter Try.func4, Try.ntmps4
    go_wp2_with fail
    refine hw.mono ?_
    rintro e w1 ⟨rfl, k1⟩
    have hx1 := hx.below k1
    have h2 := fsplit_any hx1 (by rw [H0.out]; omega)
    rw [H2.out] at h2
    go_wp2_with fail
    refine h2.mono ?_
    rintro e w2 ⟨sa, sn, sc, rfl, hs2, k2⟩
    have b2 := k1.trans (k2.mono k1.size)
    have hx2 := hx1.below k2
    have h3 := rsplit_is H0.out hx2 (by omega) H2.out
    go_wp2_with fail
    refine h3.mono ?_
    rintro e w3 ⟨ra, rn, rc, rfl, hr3, k3⟩
    have b3 := b2.trans (k3.mono b2.size)
    have hx3 := hx2.below k3
    have hs3 := hs2.below k3
    obtain rfl : sn = ls.length := by
      obtain ⟨_, _, he, _⟩ := id hs3
      injection he
    obtain rfl : rn = ls.length := by
      obtain ⟨_, _, he, _⟩ := id hr3
      injection he
    have hl1 : ls.length < 1000000000 := by
      have := split_len _ L 0 rfl
      rw [H2.out, H0.out] at this
      dsimp only at this
      omega
    have hcase : (((E : Int) != 0) = true) ∨ E = 0 := by
      simp
      omega
    go_wp2_with fail
    go_loopw [35] (fun i wr => ∃ k : Nat, k ≤ ls.length ∧ i = .int .i64 k ∧ Below w3.heap.size w3 wr) (fun i _ => ls.length - (intOf i).toNat)
    case atStart => exact ⟨0, Nat.zero_le _, rfl, Below.refl _ _⟩
    case round =>
      obtain ⟨k, hk, rfl, hbel⟩ := hrel
      by_cases hlt : k < ls.length
      · obtain ⟨_, _, he1, _, hcx⟩ := id hs3
        injection he1 with e1 _ e3
        subst e1
        obtain ⟨g1, o1, rfl, hg1, hc1⟩ := hcx.resolve_left (fun e => by rw [e] at hlt; simp at hlt)
        obtain ⟨_, _, he2, _, hcy⟩ := id hr3
        injection he2 with e1' _ e3'
        subst e1'
        obtain ⟨g2, o2, rfl, hg2, hc2⟩ := hcy.resolve_left (fun e => by rw [e] at hlt; simp at hlt)
        obtain ⟨u1, hu1, hub1⟩ := hc1 k ls[k] (List.getElem?_eq_getElem hlt)
        obtain ⟨u2, hu2, hub2⟩ := hc2 k ls[k] (List.getElem?_eq_getElem hlt)
        have f1 := (hbel.cell (p := ⟨g1, o1 + k, none⟩) hg1).trans hu1
        have f2 := (hbel.cell (p := ⟨g2, o2 + k, none⟩) hg2).trans hu2
        have hlk : (ls[k]).length < 1000000000 := by
          have := split_each _ L 0 rfl ls[k] (by rw [H2.out]; exact List.getElem_mem hlt)
          rw [H0.out] at this
          omega
        have hS := same_is rfl ((hub1.below hbel).below (below_drewN (Below.refl _ wr) 1)) ((hub2.below hbel).below (below_drewN (Below.refl _ wr) 1)) hlk hlk
        have hg1r : g1 < wr.heap.size := Nat.lt_of_lt_of_le hg1 hbel.size
        have hg2r : g2 < wr.heap.size := Nat.lt_of_lt_of_le hg2 hbel.size
        have hlt' : (k : Int) < (ls.length : Int) := by omega
        clear hc1 hc2 hcx hcy hu1 hu2 hub1 hub2 e3 e3'
        go_wp2_with fail
        go_region_held3 (fun wx => wx.cell? ⟨g1, o1 + k, none⟩ = some u1 ∧ wx.cell? ⟨g2, o2 + k, none⟩ = some u2)
          (first | assumption | go_keep)
          (first | (go_at_call 14; refine hS.mono ?_; rintro e wx ⟨rfl, kx⟩; have n1 := (kx.cell (p := ⟨g1, o1 + k, none⟩) hg1r).trans f1; have n2 := (kx.cell (p := ⟨g2, o2 + k, none⟩) hg2r).trans f2; have bx := hbel.trans ((below_drewN (Below.refl wr.heap.size wr) 1).mono hbel.size |>.trans (kx.mono hbel.size))))
        go_wp2_with fail
        go_roundw
        case rel => exact ⟨k + 1, by omega, by go_num, bx⟩
        case measure => simp [intOf]; omega
      · obtain rfl : k = ls.length := by omega
        rcases hcase with h0 | rfl
        · go_wp2_with fail
          go_ret
          exact ⟨rfl, b3.trans (hbel.mono b3.size)⟩
        · have hpl : puts ls = L := H1.out rfl
          have hp4 := fput_any (hs3.below hbel) (by rw [hpl, H0.out]; omega)
          rw [hpl] at hp4
          have HL := Lib.hid hpl
          clear hpl
          go_wp2_with fail
          refine hp4.mono ?_
          rintro e w5 ⟨pa, pn, pc, rfl, hpn, ho5, hb5, k5⟩
          clear hpn ho5
          have b5 := b3.trans ((hbel.trans (k5.mono hbel.size)).mono b3.size)
          have hx5 := ((hx3.below hbel).below k5)
          have h6 := same_is rfl hb5 hx5 (by rw [H0.out]; omega) (by rw [H0.out]; omega)
          go_wp2_with fail
          refine h6.mono ?_
          rintro e w6 ⟨rfl, k6⟩
          go_wp2_with fail
          go_ret
          exact ⟨rfl, b5.trans (k6.mono b5.size)⟩
end Go.Proofs.Ytkbdahbnjklkoaa.Frm
