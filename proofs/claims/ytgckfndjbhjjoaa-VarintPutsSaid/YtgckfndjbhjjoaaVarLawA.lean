/- The walks of wakes, VarintPuts and VarintGets, over the contracts of package varint (XVarFn: put_any, size_any, get_any). Nothing is claimed here. -/
import Derived.Test.YtgckfndjbhjjoaaVarFn
import Derived.Deep.RegionWith
import Derived.Deep.RegionHeld3
namespace Go.Proofs.Ytgckfndjbhjjoaa.Var
open Go.RowKit Kit Byt

theorem put_300 : put 300 = [172, 2] := by rw [put_hi (by omega), put_lo (by omega)]

set_option maxRecDepth 100000 in
set_option maxHeartbeats 1000000 in
theorem wakes_any {w : World} : Calls Try.prog 8 #[] w fun e w' => e = .returned (.bool true) ∧ Below w.heap.size w w' := by
  have b0 : Below w.heap.size w (w.alloc (.cells #[.int .u8 128, .int .u8 0] 5)) := (Below.refl _ w).alloc (Nat.le_refl _) _
  have h1 := get_is (w := w.alloc (.cells #[.int .u8 128, .int .u8 0] 5)) (l := [128, 0]) (n := 0) (s := 0) (e := 3) (by rfl) (bs_lit (World.alloc_heap_new w _) rfl (by decide)) (by decide)
  go_enter Try.func8, Try.ntmps8
  go_wp2_with fail
  refine h1.mono ?_
  rintro e w1 ⟨rfl, k1⟩
  have b1 := b0.trans (k1.mono b0.size)
  go_wp2_with fail
  refine (put_any (n := 300) (by omega)).mono ?_
  rintro e w2 ⟨va, vc, rfl, hb2, k2⟩
  have b2 := b1.trans (k2.mono b1.size)
  rw [put_300] at hb2 ⊢
  have hx : Bs (w2.alloc (.cells #[.int .u8 172, .int .u8 2] 5)) (.slice (some ⟨w2.heap.size, 0, none⟩) 2 2) [172, 2] := bs_lit (World.alloc_heap_new w2 _) rfl (by decide)
  have h3 := same_any (hb2.below ((Below.refl _ w2).alloc (Nat.le_refl _) _)) hx (by decide) (by decide)
  rw [decide_eq_true rfl] at h3
  go_wp2_with fail
  refine h3.mono ?_
  rintro e w3 ⟨rfl, k3⟩
  have b3 := (b2.alloc b2.size (.cells #[.int .u8 172, .int .u8 2] 5)).trans (k3.mono (by simp; have := b2.size; omega))
  go_wp2_with fail
  go_ret
  exact ⟨rfl, b3⟩

set_option maxRecDepth 100000 in
set_option maxHeartbeats 4000000 in
theorem puts_law {w : World} {n : Int} {a : Option Addr} {len c : Nat} {l : List Nat} (hn0 : 0 ≤ n) (hn1 : n ≤ 18446744073709551615) (hl : l.length = len) (hx : Bs w (.slice a len c) l) :
    Calls Try.prog 3 #[.int .u64 n, .slice a len c] w fun e w' => e = .returned (.bool true) ∧ Below w.heap.size w w' := by
  have hw := wakes_any (w := w)
  obtain ⟨n, rfl⟩ := Int.eq_ofNat_of_zero_le hn0
  have hn : n < 18446744073709551616 := by omega
  clear hn0 hn1
  by_cases hs : 100 < len
  · have hs' : (100 : Int) < (len : Int) := by omega
    clear hn
    go_enter Try.func3, Try.ntmps3
    go_wp2_with fail
    refine hw.mono ?_
    rintro e w1 ⟨rfl, k1⟩
    go_wp2_with fail
    go_ret
    exact ⟨rfl, k1⟩
  · have hs' : decide ((100 : Int) < (len : Int)) = false := by simp; omega
    have H0 := Lib.hid hn
    have H1 := Lib.hid hl
    have hp10 := put_len hn
    have hpb := put_byte n
    obtain ⟨p, hp⟩ : ∃ p, (put n).length = p := ⟨_, rfl⟩
    have H2 := Lib.hid hp
    rw [hp] at hp10
    clear hn hl hp
    go_enter Try.func3, Try.ntmps3
    go_wp2_with fail
    refine hw.mono ?_
    rintro e w1 ⟨rfl, k1⟩
    have hx1 := hx.below k1
    have hz1 := k1.size
    go_wp2_with fail
    refine (put_any (n := n) H0.out).mono ?_
    rintro e w2 ⟨va, vc, rfl, hb2, k2⟩
    rw [H2.out] at hb2 ⊢
    have b2 := k1.trans (k2.mono hz1)
    have hx2 := hx1.below k2
    have hz2 := b2.size
    have k3 : Below w2.heap.size w2 (w2.alloc (.cells #[] 5)) := (Below.refl _ w2).alloc (Nat.le_refl _) _
    have hb3 := hb2.below k3
    go_wp2_with (at_builtin; refine wp_append_bytes rfl _ _ rfl w2.heap.size rfl rfl (own_empty w2 _ (Nat.le_refl _)) hb3 ?c1 ?c2 ?_)
    case c1 => rw [H2.out]; omega
    case c2 => simp
    intro v4 w4 ho4 hg4
    have b4 : Below w2.heap.size w2 w4 := k3.grown hg4 (by simp) (fun j e => by cases e; exact Nat.le_refl _)
    have hx4 := hx2.below b4
    have hb4 := hb2.below b4
    have hz4 := b4.size
    go_wp2_with (at_builtin; refine wp_append_bytes rfl _ _ rfl w2.heap.size rfl rfl ho4 hx4 ?c1 ?c2 ?_)
    case c1 => rw [H2.out, H1.out]; omega
    case c2 => exact hz4
    intro v5 w5 ho5 hg5
    rw [← bytesV_app, H2.out, H1.out] at ho5
    have b5 : Below w2.heap.size w2 w5 := b4.grown hg5 hz4 (fun j e => (ho4.lt j e).1)
    have hb5 := hb2.below b5
    have hall : ∀ b ∈ put n ++ l, b < 256 := fun b hb => (List.mem_append.1 hb).elim (hpb b) (hx.1 b)
    have hr5 : Bs w5 v5 (put n ++ l) := bs_of_own hall (by
      rw [List.length_append, H1.out, H2.out]
      exact ho5)
    obtain ⟨va5, vc5, rfl, _⟩ := own_slice ho5
    have g5 := get_is (get_put H0.out l) hr5 (by rw [List.length_append, H1.out, H2.out]; omega)
    rw [H2.out] at g5
    clear hall hpb
    go_wp2_with fail
    refine g5.mono ?_
    rintro e w6 ⟨rfl, k6⟩
    have b6 := b5.trans (k6.mono b5.size)
    have hb6 := hb5.below k6
    go_wp2_with fail
    refine (rput_any (n := n) H0.out).mono ?_
    rintro e w7 ⟨v7, rfl, hb7, k7⟩
    have b7 := b6.trans (k7.mono b6.size)
    have h8 := same_any (hb6.below k7) hb7 (by rw [H2.out]; omega) (by rw [H2.out]; omega)
    rw [decide_eq_true rfl] at h8
    go_wp2_with fail
    refine h8.mono ?_
    rintro e w8 ⟨rfl, k8⟩
    have b8 := b7.trans (k8.mono b7.size)
    have h9 := size_any (w := w8) (n := n) H0.out
    rw [H2.out] at h9
    go_wp2_with fail
    refine h9.mono ?_
    rintro e w9 ⟨rfl, k9⟩
    have b9 := b2.trans ((b8.trans (k9.mono b8.size)).mono hz2)
    go_wp2_with fail
    go_ret
    exact ⟨by simp, b9⟩

set_option maxRecDepth 100000 in
set_option maxHeartbeats 4000000 in
theorem gets_law {w : World} {a : Option Addr} {len c : Nat} {l : List Nat} (hl : l.length = len) (hx : Bs w (.slice a len c) l) :
    Calls Try.prog 4 #[.slice a len c] w fun e w' => e = .returned (.bool true) ∧ Below w.heap.size w w' := by
  have hw := wakes_any (w := w)
  by_cases hs : 1000 < len
  · have hs' : (1000 : Int) < (len : Int) := by omega
    go_enter Try.func4, Try.ntmps4
    go_wp2_with fail
    refine hw.mono ?_
    rintro e w1 ⟨rfl, k1⟩
    go_wp2_with fail
    go_ret
    exact ⟨rfl, k1⟩
  · have hs' : decide ((1000 : Int) < (len : Int)) = false := by simp; omega
    have hln : l.length < 1000000000 := by omega
    have hlc : len ≤ c := by
      obtain ⟨_, _, _, he, hc, _⟩ := id hx
      injection he with _ _ he3
      omega
    have hor := get_or l
    have hlt := get_lt l
    have hpg := put_get hx.1
    obtain ⟨N, S, E, hg⟩ : ∃ N S E, get l = (N, S, E) := ⟨_, _, _, rfl⟩
    rw [hg] at hor hlt hpg
    dsimp only at hor hlt hpg
    have H0 := Lib.hid hlt
    have H1 := Lib.hid hpg
    have H2 := Lib.hid hg
    have H3 := Lib.hid hl
    clear hlt hpg hg
    have hend : (((E : Int) != 0) = true) ∨ (E = 0 ∧ S ≤ len) := by
      simp
      omega
    clear hor hl
    go_enter Try.func4, Try.ntmps4
    go_wp2_with fail
    refine hw.mono ?_
    rintro e w1 ⟨rfl, k1⟩
    have hx1 := hx.below k1
    have hz1 := k1.size
    go_wp2_with fail
    refine (get_is H2.out hx1 hln).mono ?_
    rintro e w2 ⟨rfl, k2⟩
    have b2 := k1.trans (k2.mono hz1)
    have hx2 := hx1.below k2
    go_wp2_with fail
    refine (rget_is H2.out hx2 hln).mono ?_
    rintro e w3 ⟨rfl, k3⟩
    have b3 := b2.trans (k3.mono b2.size)
    have hx3 := hx2.below k3
    have b4 := b3.alloc b3.size (.cells #[.int .u64 N, .int .i64 S, .int .i64 E] 33)
    have hx4 : Bs (w3.alloc (.cells #[.int .u64 N, .int .i64 S, .int .i64 E] 33)) (.slice a len c) l := hx3.below ((Below.refl _ w3).alloc (Nat.le_refl _) _)
    rcases hend with h0 | ⟨rfl, hS⟩
    · go_wp2_with fail
      go_quiet (fail)
      go_wp2_with fail
      go_ret
      exact ⟨rfl, below_drewN b4 _⟩
    · have hSc : (S : Int) ≤ (c : Int) := by omega
      have hput := H1.out rfl
      have hT4 := hx4.take (m := S) (by rw [H3.out]; exact hS)
      have b5 := below_drewN b4 1
      have hT5 : Bs (World.drewN (w3.alloc (.cells #[.int .u64 N, .int .i64 S, .int .i64 0] 33)) 1) (.slice a S c) (l.take S) := hT4.below (below_drewN (Below.refl _ _) 1)
      have hlT : (l.take S).length < 1000000000 := by rw [List.length_take]; omega
      have hlP : (put N).length < 1000000000 := by rw [hput]; exact hlT
      clear hT4 b4 hx4 hx3 hx2 hx1
      have H4 := Lib.hid hput
      clear hput
      go_wp2_with fail
      go_region_with (first | (go_at_call 9; refine (put_any (n := N) H0.out).mono ?_; rintro e w6 ⟨va, vc, rfl, hb6, k6⟩; have hT6 := hT5.below k6; have b6 := b5.trans (k6.mono b5.size); have h7 := same_any hb6 hT6 hlP hlT; rw [decide_eq_true H4.out] at h7) | (go_at_call 11; refine h7.mono ?_; rintro e w7 ⟨rfl, k7⟩; have b7 := b6.trans (k7.mono b6.size)))
      all_goals (go_wp2_with fail; go_ret; exact ⟨rfl, b7⟩)
end Go.Proofs.Ytgckfndjbhjjoaa.Var
