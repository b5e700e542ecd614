/- The walks of VarintCuts and VarintOrder, over the contracts of package varint. Nothing is claimed here. -/
import Derived.Test.YtgckfndjbhjjoaaVarLawA
import Derived.Deep.Cut
import Derived.IntWalk
namespace Go.Proofs.Ytgckfndjbhjjoaa.Var
open Go.RowKit Kit Byt

theorem or128 : ∀ x, x < 128 → bits .or .u8 ((x : Nat) : Int) 128 = (x : Int) + 128 := by decide +kernel

theorem same_is {w : World} {v u : Value} {l m : List Nat} (e : l = m) (hx : Bs w v l) (hy : Bs w u m) (h1 : l.length < 1000000000) (h2 : m.length < 1000000000) :
    Calls Try.prog 11 #[v, u] w fun e w' => e = .returned (.bool true) ∧ Below w.heap.size w w' := by
  have := same_any hx hy h1 h2
  rwa [decide_eq_true e] at this

set_option maxRecDepth 100000 in
set_option maxHeartbeats 4000000 in
theorem cuts_law {w : World} {n k : Int} (hn0 : 0 ≤ n) (hn1 : n ≤ 18446744073709551615) (hk0 : 0 ≤ k) (hk1 : k ≤ 255) :
    Calls Try.prog 6 #[.int .u64 n, .int .u8 k] w fun e w' => e = .returned (.bool true) ∧ Below w.heap.size w w' := by
  have hw := wakes_any (w := w)
  obtain ⟨n, rfl⟩ := Int.eq_ofNat_of_zero_le hn0
  obtain ⟨k, rfl⟩ := Int.eq_ofNat_of_zero_le hk0
  have hn : n < 18446744073709551616 := by omega
  have H0 := Lib.hid hn
  clear hn0 hn1 hk0
  obtain ⟨q, x, hq, hx128, hqb⟩ := put_last n
  obtain ⟨m, hm⟩ : ∃ m, q.length = m := ⟨_, rfl⟩
  obtain ⟨p, hp⟩ : ∃ p, (put n).length = p := ⟨_, rfl⟩
  have hpm : p = m + 1 := by rw [← hp, hq]; simp [hm]
  have hp10 : p ≤ 10 := hp ▸ put_len hn
  obtain ⟨j, hj⟩ : ∃ j, k % p = j := ⟨_, rfl⟩
  have hjp : j < p := by rw [← hj]; exact Nat.mod_lt _ (by omega)
  have hkj : (k : Int) % (p : Int) = (j : Int) := by rw [← hj]; simp
  have hcut := get_cut (k := j) hn (by rw [hp]; exact hjp)
  have hlong := get_long hn hq
  have hp0 : ((p : Int) == 0) = false := by simp; omega
  have hp0' : (0 : Int) < (p : Int) := by omega
  have hpm1 : (p : Int) - 1 = (m : Int) := by omega
  have hor := or128 x hx128
  rw [hp] at hlong
  have hbytes : ∀ b ∈ q ++ [x + 128, 0], b < 256 := by
    intro b hb
    rcases List.mem_append.1 hb with hb | hb
    · exact (hqb b hb).2
    · simp at hb; omega
  have H1 := Lib.hid hp
  have H2 := Lib.hid hcut
  have H3 := Lib.hid hlong
  have H4 := Lib.hid hq
  have H5 := Lib.hid hm
  have H6 := Lib.hid hbytes
  have hj' : (j : Int) ≤ (p : Int) := by omega
  have H7 := Lib.hid hpm
  clear hn hp hj hcut hlong hq hm hqb hbytes hpm
  go_enter Try.func6, Try.ntmps6
  go_wp2_with fail
  refine hw.mono ?_
  rintro e w1 ⟨rfl, k1⟩
  go_wp2_with fail
  refine (put_any (n := n) H0.out).mono ?_
  rintro e w2 ⟨va, vc, rfl, hb2, k2⟩
  have b2 := k1.trans (k2.mono k1.size)
  rw [H1.out] at hb2 ⊢
  have hpc : p ≤ vc := by
    obtain ⟨_, _, _, he, hc, _⟩ := id hb2
    injection he with _ _ he3
    rw [H1.out] at hc
    omega
  have hjc : (j : Int) ≤ (vc : Int) := by omega
  have hmc : (m : Int) ≤ (vc : Int) := by omega
  obtain ⟨g, off, rfl⟩ : ∃ g off, va = some ⟨g, off, none⟩ := by
    obtain ⟨_, _, _, he, _, h⟩ := id hb2
    injection he with he1 _ _
    rcases h with h | ⟨g, off, ha, _⟩
    · exact absurd (congrArg List.length h) (by rw [H1.out]; simp; have := H7.out; omega)
    · exact ⟨g, off, he1.trans ha⟩
  have hT2 := hb2.take (m := j) (by rw [H1.out]; omega)
  have g2 := get_is H2.out hT2 (by rw [List.length_take]; omega)
  go_wp2_with fail
  refine g2.mono ?_
  rintro e w3 ⟨rfl, k3⟩
  have b3 := b2.trans (k3.mono b2.size)
  have hb3 := hb2.below k3
  have hQ3 : Bs w3 (.slice (some ⟨g, off, none⟩) m vc) q := by
    have := hb3.take (m := m) (by rw [H1.out]; omega)
    rw [H4.out, ← H5.out, List.take_left] at this
    rw [H5.out] at this
    exact this
  have e3 : w3.cell? ⟨g, off + m, none⟩ = some (.int .u8 (x : Int)) := by
    obtain ⟨_, a', c', he, _, h⟩ := id hb3
    injection he with he1 _ _
    subst he1
    rcases h with h | ⟨g', off', ha, _, h⟩
    · exact absurd (congrArg List.length h) (by rw [H1.out]; simp; have := H7.out; omega)
    · injection ha with ha
      injection ha with h1 h2
      subst h1; subst h2
      exact h m x (by rw [H4.out, ← H5.out]; simp)
  have hgl : g < w3.heap.size := World.block_lt_of_cell? _ _ e3
  have hmp : (m : Int) < (p : Int) := by omega
  go_upto_region 7 with fail
  go_cut [9] from 32 (fun v wc => ∃ a N c, v = .slice a N c ∧ Bs wc (.slice a N c) (q ++ [x + 128, 0]) ∧ Below w.heap.size w wc)
  case first =>
    have hwm : IntKind.i64.wrap (m : Int) = (m : Int) := IntWalk.i64_in _ (by omega)
    have hm0 : (0 : Int) ≤ (m : Int) := by omega
    have hL : ∀ (wx : World), Bs (wx.alloc (.cells #[.int .u8 ((x : Int) + 128), .int .u8 0] 5)) (.slice (some ⟨wx.heap.size, 0, none⟩) 2 2) [x + 128, 0] := fun wx => bs_lit (World.alloc_heap_new wx _) rfl (by simp; omega)
    have hB1 : Below w3.heap.size w3 (w3.alloc (.cells #[] 5)).drew := below_drewN ((Below.refl _ _).alloc (Nat.le_refl _) _) 1
    have hB2 : Below w3.heap.size w3 ((w3.alloc (.cells #[] 5)).alloc (.cells #[.int .u8 ((x : Int) + 128), .int .u8 0] 5)).drew := below_drewN (((Below.refl _ _).alloc (Nat.le_refl _) _).alloc (by simp) _) 1
    have hB3 : Below w3.heap.size w3 ((w3.alloc (.cells #[.int .u8 ((x : Int) + 128), .int .u8 0] 5)).alloc (.cells #[] 5)).drew := below_drewN (((Below.refl _ _).alloc (Nat.le_refl _) _).alloc (by simp) _) 1
    have hO1 : (w3.alloc (.cells #[] 5)).drew.ownsRow w3.heap.size 5 1 (.slice (some ⟨w3.heap.size, 0, none⟩) 0 0) 0 [] := own_empty w3 _ (Nat.le_refl _)
    have hO2 : ((w3.alloc (.cells #[] 5)).alloc (.cells #[.int .u8 ((x : Int) + 128), .int .u8 0] 5)).drew.ownsRow w3.heap.size 5 1 (.slice (some ⟨w3.heap.size, 0, none⟩) 0 0) 0 [] := (own_empty w3 _ (Nat.le_refl _)).alloc _
    have hO3 : ((w3.alloc (.cells #[.int .u8 ((x : Int) + 128), .int .u8 0] 5)).alloc (.cells #[] 5)).drew.ownsRow w3.heap.size 5 1 (.slice (some ⟨w3.heap.size + 1, 0, none⟩) 0 0) 0 [] := by
      have := own_empty (w3.alloc (.cells #[.int .u8 ((x : Int) + 128), .int .u8 0] 5)) w3.heap.size (by simp)
      rw [World.size_alloc] at this
      exact this
    have hL2 : Bs ((w3.alloc (.cells #[] 5)).alloc (.cells #[.int .u8 ((x : Int) + 128), .int .u8 0] 5)).drew (.slice (some ⟨w3.heap.size + 1, 0, none⟩) 2 2) [x + 128, 0] := by
      have := hL (w3.alloc (.cells #[] 5))
      rw [World.size_alloc] at this
      exact this
    have hL3 : Bs ((w3.alloc (.cells #[.int .u8 ((x : Int) + 128), .int .u8 0] 5)).alloc (.cells #[] 5)).drew (.slice (some ⟨w3.heap.size, 0, none⟩) 2 2) [x + 128, 0] := (hL w3).below (below_drewN ((Below.refl _ _).alloc (Nat.le_refl _) _) 1)
    have hz1 : w3.heap.size ≤ (w3.alloc (.cells #[] 5)).drew.heap.size := hB1.size
    have hz2 := hB2.size
    have hz3 := hB3.size
    have hql : 0 + q.length ≤ 1000000000000 := by rw [H5.out]; omega
    have hql2 : 0 + q.length + [x + 128, 0].length ≤ 1000000000000 := by rw [H5.out]; simp; omega
    go_region_held3 (fun wx => wx.cell? ⟨g, off + m, none⟩ = some (.int .u8 (x : Int)))
      (first | assumption | go_keep)
      (first
        | (refine step_append_held (by rfl) _ _ (by rfl) w3.heap.size (by rfl) (by rfl) hB1 hO1 (hQ3.below hB1) hql hz1 ?_; intro v1 wA ho1 hg1 bA; have nS := (bA.cell (p := ⟨g, off + m, none⟩) hgl).trans e3; have hzA := bA.size)
        | (refine step_append_held (by rfl) _ _ (by rfl) w3.heap.size (by rfl) (by rfl) hB2 hO2 (hQ3.below hB2) hql hz2 ?_; intro v1 wA ho1 hg1 bA; have nS := (bA.cell (p := ⟨g, off + m, none⟩) hgl).trans e3; have hzA := bA.size; have hl1 := hL2.grown hg1 (by simp [Value.ownBlock]))
        | (refine step_append_held (by rfl) _ _ (by rfl) w3.heap.size (by rfl) (by rfl) hB3 hO3 (hQ3.below hB3) hql hz3 ?_; intro v1 wA ho1 hg1 bA; have nS := (bA.cell (p := ⟨g, off + m, none⟩) hgl).trans e3; have hzA := bA.size; have hl1 := hL3.grown hg1 (by simp [Value.ownBlock]))
        | (refine step_append_held (by rfl) _ _ (by rfl) w3.heap.size (by rfl) (by rfl) (bA.alloc hzA _) (ho1.alloc _) (hL wA) hql2 (by simp; omega) ?_; intro v2 wB ho2 hg2 bB; have nT := (bB.cell (p := ⟨g, off + m, none⟩) hgl).trans e3)
        | (refine step_append_held (by rfl) _ _ (by rfl) w3.heap.size (by rfl) (by rfl) bA ho1 hl1 hql2 hzA ?_; intro v2 wB ho2 hg2 bB; have nT := (bB.cell (p := ⟨g, off + m, none⟩) hgl).trans e3))
    all_goals (go_wp2_with fail; go_meet)
    all_goals
      case rel =>
        have hr2 : Bs wB v2 (q ++ [x + 128, 0]) := bs_of_own H6.out (by
          rw [bytesV_app, List.length_append]
          rw [Nat.zero_add, List.nil_append] at ho2
          exact ho2)
        obtain ⟨va2, vc2, rfl, _⟩ := own_slice ho2
        exact ⟨_, _, _, rfl, hr2, b3.trans (bB.mono b3.size)⟩
  case rest =>
    obtain ⟨a4, N4, c4, rfl, hr4, b4⟩ := hcut
    have hlen4 : (q ++ [x + 128, 0]).length < 1000000000 := by rw [List.length_append, H5.out]; simp; omega
    have hor4 := get_or (q ++ [x + 128, 0])
    obtain ⟨N, S, E, hg⟩ : ∃ N S E, get (q ++ [x + 128, 0]) = (N, S, E) := ⟨_, _, _, rfl⟩
    have g4 := get_is hg hr4 hlen4
    have hE := H3.out
    rw [hg] at hE
    dsimp only at hE
    clear hg hor4 e3 hor
    have hE' : (((E : Int) == 3) = true) ∨ (((E : Int) == 3) = false ∧ ((p : Int) == 10) = true ∧ ((E : Int) == 4) = true) := by
      simp
      omega
    clear hE
    go_wp2_with fail
    refine g4.mono ?_
    rintro e w5 ⟨rfl, k5⟩
    have b5 := b4.trans (k5.mono b4.size)
    rcases hE' with c1 | ⟨c1, c2, c3⟩
    all_goals
      go_wp2_with fail
      go_ret
      exact ⟨by simp, b5⟩

set_option maxRecDepth 100000 in
set_option maxHeartbeats 4000000 in
theorem order_lt {w : World} {a b : Nat} (hb : b < 18446744073709551616) (hab : a < b) :
    Calls Try.prog 7 #[.int .u64 a, .int .u64 b] w fun e w' => e = .returned (.bool true) ∧ Below w.heap.size w w' := by
  have hw := wakes_any (w := w)
  have ha : a < 18446744073709551616 := by omega
  have hpa := put_pos a
  have hmo := put_mono b a (by omega)
  have hla := put_len ha
  have hlb := put_len hb
  have hiff := put_inj_prefix ha hb
  have hi : (a : Int) < (b : Int) := by omega
  have hne : ((a : Int) == (b : Int)) = false := by simp; omega
  obtain ⟨p, hp⟩ : ∃ p, (put a).length = p := ⟨_, rfl⟩
  obtain ⟨q, hq⟩ : ∃ q, (put b).length = q := ⟨_, rfl⟩
  rw [hp] at hpa hmo hla hiff
  rw [hq] at hmo hlb
  have hle : decide ((q : Int) < (p : Int)) = false := by simp; omega
  have hle' : decide (q < p) = false := by simp; omega
  have hp0 : ((p : Int) == 0) = false := by simp; omega
  have H0 := Lib.hid ha
  have H1 := Lib.hid hb
  have H2 := Lib.hid hp
  have H3 := Lib.hid hq
  have H4 := Lib.hid hiff
  clear ha hb hp hq hiff
  go_enter Try.func7, Try.ntmps7
  go_wp2_with fail
  refine hw.mono ?_
  rintro e w1 ⟨rfl, k1⟩
  go_wp2_with fail
  refine (put_any (n := a) H0.out).mono ?_
  rintro e w2 ⟨xa, xc, rfl, hx2, k2⟩
  have b2 := k1.trans (k2.mono k1.size)
  rw [H2.out] at hx2 ⊢
  go_wp2_with fail
  refine (put_any (n := b) H1.out).mono ?_
  rintro e w3 ⟨ya, yc, rfl, hy3, k3⟩
  have b3 := b2.trans (k3.mono b2.size)
  have hx3 := hx2.below k3
  have hyc : (p : Int) ≤ (yc : Int) := by
    obtain ⟨_, _, _, he, hc, _⟩ := id hy3
    injection he with _ _ he3
    rw [H3.out] at hc
    omega
  rw [H3.out] at hy3 ⊢
  have hT3 := hy3.take (m := p) (by rw [H3.out]; exact hmo)
  have h4 := same_any hx3 hT3 (by rw [H2.out]; omega) (by rw [List.length_take]; omega)
  rw [decide_eq_false (fun h => absurd (H4.out.1 h) (by omega))] at h4
  go_wp2_with fail
  refine h4.mono ?_
  rintro e w4 ⟨rfl, k4⟩
  have b4 := b3.trans (k4.mono b3.size)
  go_wp2_with fail
  go_ret
  exact ⟨rfl, b4⟩
set_option maxRecDepth 100000 in
set_option maxHeartbeats 4000000 in
theorem order_gt {w : World} {a b : Nat} (hb : b < 18446744073709551616) (hab : a < b) :
    Calls Try.prog 7 #[.int .u64 b, .int .u64 a] w fun e w' => e = .returned (.bool true) ∧ Below w.heap.size w w' := by
  have hw := wakes_any (w := w)
  have ha : a < 18446744073709551616 := by omega
  have hpa := put_pos a
  have hmo := put_mono b a (by omega)
  have hla := put_len ha
  have hlb := put_len hb
  have hiff := put_inj_prefix ha hb
  have hi : (a : Int) < (b : Int) := by omega
  have hne : ((b : Int) == (a : Int)) = false := by simp; omega
  obtain ⟨p, hp⟩ : ∃ p, (put a).length = p := ⟨_, rfl⟩
  obtain ⟨q, hq⟩ : ∃ q, (put b).length = q := ⟨_, rfl⟩
  rw [hp] at hpa hmo hla hiff
  rw [hq] at hmo hlb
  have hle : decide ((q : Int) < (p : Int)) = false := by simp; omega
  have hle' : decide (q < p) = false := by simp; omega
  have hp0 : ((p : Int) == 0) = false := by simp; omega
  have H0 := Lib.hid ha
  have H1 := Lib.hid hb
  have H2 := Lib.hid hp
  have H3 := Lib.hid hq
  have H4 := Lib.hid hiff
  clear ha hb hp hq hiff
  go_enter Try.func7, Try.ntmps7
  go_wp2_with fail
  refine hw.mono ?_
  rintro e w1 ⟨rfl, k1⟩
  go_wp2_with fail
  refine (put_any (n := a) H0.out).mono ?_
  rintro e w2 ⟨xa, xc, rfl, hx2, k2⟩
  have b2 := k1.trans (k2.mono k1.size)
  rw [H2.out] at hx2 ⊢
  go_wp2_with fail
  refine (put_any (n := b) H1.out).mono ?_
  rintro e w3 ⟨ya, yc, rfl, hy3, k3⟩
  have b3 := b2.trans (k3.mono b2.size)
  have hx3 := hx2.below k3
  have hyc : (p : Int) ≤ (yc : Int) := by
    obtain ⟨_, _, _, he, hc, _⟩ := id hy3
    injection he with _ _ he3
    rw [H3.out] at hc
    omega
  rw [H3.out] at hy3 ⊢
  have hT3 := hy3.take (m := p) (by rw [H3.out]; exact hmo)
  have h4 := same_any hx3 hT3 (by rw [H2.out]; omega) (by rw [List.length_take]; omega)
  rw [decide_eq_false (fun h => absurd (H4.out.1 h) (by omega))] at h4
  go_wp2_with fail
  refine h4.mono ?_
  rintro e w4 ⟨rfl, k4⟩
  have b4 := b3.trans (k4.mono b3.size)
  go_wp2_with fail
  go_ret
  exact ⟨rfl, b4⟩
set_option maxRecDepth 100000 in
set_option maxHeartbeats 4000000 in
theorem order_eq {w : World} {a b : Nat} (hb : b < 18446744073709551616) (hab : a = b) :
    Calls Try.prog 7 #[.int .u64 a, .int .u64 a] w fun e w' => e = .returned (.bool true) ∧ Below w.heap.size w w' := by
  have hw := wakes_any (w := w)
  have ha : a < 18446744073709551616 := by omega
  have hpa := put_pos a
  have hmo := put_mono b a (by omega)
  have hla := put_len ha
  have hlb := put_len hb
  have hiff := put_inj_prefix ha hb
  subst hab
  obtain ⟨p, hp⟩ : ∃ p, (put a).length = p := ⟨_, rfl⟩
  rw [hp] at hpa hmo hla hiff hlb
  have hp0 : ((p : Int) == 0) = false := by simp; omega
  have H0 := Lib.hid ha
  have H1 := Lib.hid hb
  have H2 := Lib.hid hp
  have H4 := Lib.hid hiff
  clear ha hb hp hiff
  go_enter Try.func7, Try.ntmps7
  go_wp2_with fail
  refine hw.mono ?_
  rintro e w1 ⟨rfl, k1⟩
  go_wp2_with fail
  refine (put_any (n := a) H0.out).mono ?_
  rintro e w2 ⟨xa, xc, rfl, hx2, k2⟩
  have b2 := k1.trans (k2.mono k1.size)
  rw [H2.out] at hx2 ⊢
  go_wp2_with fail
  refine (put_any (n := a) H1.out).mono ?_
  rintro e w3 ⟨ya, yc, rfl, hy3, k3⟩
  have b3 := b2.trans (k3.mono b2.size)
  have hx3 := hx2.below k3
  have hyc : (p : Int) ≤ (yc : Int) := by
    obtain ⟨_, _, _, he, hc, _⟩ := id hy3
    injection he with _ _ he3
    rw [H2.out] at hc
    omega
  rw [H2.out] at hy3 ⊢
  have hT3 := hy3.take (m := p) (by rw [H2.out]; exact hmo)
  have h4 := same_any hx3 hT3 (by rw [H2.out]; omega) (by rw [List.length_take]; omega)
  rw [decide_eq_true (H4.out.2 trivial)] at h4
  go_wp2_with fail
  refine h4.mono ?_
  rintro e w4 ⟨rfl, k4⟩
  have b4 := b3.trans (k4.mono b3.size)
  go_wp2_with fail
  go_ret
  exact ⟨rfl, b4⟩

theorem order_law {w : World} {n k : Int} (hn0 : 0 ≤ n) (hn1 : n ≤ 18446744073709551615) (hk0 : 0 ≤ k) (hk1 : k ≤ 18446744073709551615) :
    Calls Try.prog 7 #[.int .u64 n, .int .u64 k] w fun e w' => e = .returned (.bool true) ∧ Below w.heap.size w w' := by
  obtain ⟨n, rfl⟩ := Int.eq_ofNat_of_zero_le hn0
  obtain ⟨k, rfl⟩ := Int.eq_ofNat_of_zero_le hk0
  rcases Nat.lt_trichotomy n k with h | rfl | h
  · exact order_lt (by omega) h
  · exact order_eq (b := n) (by omega) rfl
  · exact order_gt (by omega) h
end Go.Proofs.Ytgckfndjbhjjoaa.Var
