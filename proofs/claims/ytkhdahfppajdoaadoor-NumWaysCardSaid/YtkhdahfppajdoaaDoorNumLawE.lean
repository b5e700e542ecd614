/- The walk of NumWays, over the contracts of package num (XNumFn). Nothing is claimed here. -/
import Derived.Test.YtkhdahfppajdoaaDoorNumLawB
import Derived.Test.YtkhdahfppajdoaaDoorNumMany
import Derived.Test.YtkhdahfppajdoaaDoorNumDig
import Derived.Test.YtkhdahfppajdoaaDoorNumSl
import Derived.Deep.RegionHeld3
namespace Go.Proofs.YtkhdahfppajdoaaDoor.Num
open Go.RowKit Kit

/-- Four blocks, behind a call that left them alone. -/
theorem five_step {w wx wy : World} {a b c d : Nat} {o1 o2 o3 o4 : Obj} (hS : wx.heap[a]? = some o1 ∧ wx.heap[b]? = some o2 ∧ wx.heap[c]? = some o3 ∧ wx.heap[d]? = some o4 ∧ Below w.heap.size w wx) (kx : Below wx.heap.size wx wy) :
    wy.heap[a]? = some o1 ∧ wy.heap[b]? = some o2 ∧ wy.heap[c]? = some o3 ∧ wy.heap[d]? = some o4 ∧ Below w.heap.size w wy := by
  obtain ⟨h1, h2, h3, h4, h5⟩ := hS
  exact ⟨(kx.block _ (lt_of_heap h1)).trans h1, (kx.block _ (lt_of_heap h2)).trans h2, (kx.block _ (lt_of_heap h3)).trans h3, (kx.block _ (lt_of_heap h4)).trans h4, h5.trans (kx.mono h5.size)⟩

theorem set_far {w : World} {b g : Nat} {o : Obj} (h : w.heap[b]? = some o) (hne : b ≠ g) (x y z : Value) : (((w.setCell ⟨g, 0, none⟩ x).setCell ⟨g, 1, none⟩ y).setCell ⟨g, 2, none⟩ z).heap[b]? = some o :=
  set_other (set_other (set_other h hne 0 x) hne 1 y) hne 2 z
/-- The same, behind a store of what is there into the fourth one. -/
theorem five_store {w wx : World} {a b c d : Nat} {o1 o2 o3 : Obj} {x y z : Value} {t : TypeId} (hS : wx.heap[a]? = some o1 ∧ wx.heap[b]? = some o2 ∧ wx.heap[c]? = some o3 ∧ wx.heap[d]? = some (.cells #[x, y, z] t (0, 0)) ∧ Below w.heap.size w wx)
    (ha : a ≠ d) (hb : b ≠ d) (hc : c ≠ d) (hd : w.heap.size ≤ d) :
    (((wx.setCell ⟨d, 0, none⟩ x).setCell ⟨d, 1, none⟩ y).setCell ⟨d, 2, none⟩ z).heap[a]? = some o1 ∧ (((wx.setCell ⟨d, 0, none⟩ x).setCell ⟨d, 1, none⟩ y).setCell ⟨d, 2, none⟩ z).heap[b]? = some o2 ∧
    (((wx.setCell ⟨d, 0, none⟩ x).setCell ⟨d, 1, none⟩ y).setCell ⟨d, 2, none⟩ z).heap[c]? = some o3 ∧ (((wx.setCell ⟨d, 0, none⟩ x).setCell ⟨d, 1, none⟩ y).setCell ⟨d, 2, none⟩ z).heap[d]? = some (.cells #[x, y, z] t (0, 0)) ∧
    Below w.heap.size w (((wx.setCell ⟨d, 0, none⟩ x).setCell ⟨d, 1, none⟩ y).setCell ⟨d, 2, none⟩ z) := by
  obtain ⟨h1, h2, h3, h4, h5⟩ := hS
  exact ⟨set_far h1 ha _ _ _, set_far h2 hb _ _ _, set_far h3 hc _ _ _, set_of (set_of (set_of h4 0 x) 1 y) 2 z,
    ((h5.setCell (p := ⟨d, 0, none⟩) hd x).setCell (p := ⟨d, 1, none⟩) hd y).setCell (p := ⟨d, 2, none⟩) hd z⟩

/-- '+' of two texts, the first one a literal. -/
theorem add_litL {a b c : List UInt8} {s : ByteArray} (hs : s = txt a) (hc : a ++ b = c) : s ++ txt b = txt c := by
  subst hs; subst hc
  exact add_txt a b

set_option maxRecDepth 100000 in
set_option maxHeartbeats 8000000 in
theorem ways_law {w : World} {n k m : Nat} (ho : Ok w) (hn : n < 4294967296) (hk : k < 256) (hm : m < 256) : Calls Tryd.prog 6 #[.int .u32 n, .int .u8 k, .int .u8 m] w fun e w' => e = .returned (.bool true) ∧ Below w.heap.size w w' := by
  have hw := wakes_any ho
  have ht0 : (⟨#[]⟩ : ByteArray) = txt [] := rfl
  have ht48 : (⟨#[48]⟩ : ByteArray) = txt [48] := rfl
  obtain ⟨zn, hzn⟩ : ∃ zn, m % 9 = zn := ⟨_, rfl⟩
  have hz8 : zn ≤ 8 := by omega
  have hmi : (m : Int).tmod 9 = (zn : Int) := by rw [Int.tmod_eq_emod_of_nonneg (by omega)]; omega
  have wn : IntKind.i64.wrap (n : Int) = (n : Int) := by simp only [IntKind.wrap, IntKind.signed, IntKind.bits]; simp; omega
  have wm : IntKind.i64.wrap (m : Int) = (m : Int) := by simp only [IntKind.wrap, IntKind.signed, IntKind.bits]; simp; omega
  have wk : IntKind.i64.wrap (k : Int) = (k : Int) := by simp only [IntKind.wrap, IntKind.signed, IntKind.bits]; simp; omega
  have wz : IntKind.i64.wrap (zn : Int) = (zn : Int) := by simp only [IntKind.wrap, IntKind.signed, IntKind.bits]; simp; omega
  have hD := fun wx => digits_any n (by omega) wx
  have hl := digits_len n 10 (by omega) (by omega)
  have hwb := way_b n zn hn hz8
  have hwc := way_c n zn hz8
  have hwc0 := way_c0 zn (digits zn)
  have hwd := fun j h0 h1 => way_d n j h0 h1 hn
  have hP : parse (digits n) = (ofN n, 0) := Prod.ext rfl (ofN_whole (v := n) (by omega)).2
  rw [hP] at hwb hwc hwd
  have hs0 : n = 0 → digits n = [48] ∧ ofN n = zero := fun h => by rw [h]; exact ⟨digits_zero, by decide +kernel⟩
  have hE1 := fun wx => digits_any ((digits n).length + zn) (by omega) wx
  have hE2 := fun wx => digits_any zn (by omega) wx
  have hl1 := digits_len ((digits n).length + zn) 10 (by omega) (by omega)
  have hl2 := digits_len zn 10 (by omega) (by omega)
  have hE3 := fun (j : Nat) (h : j ≤ (digits n).length) wx => digits_any ((digits n).length - j) (by omega) wx
  have hl3 := fun (j : Nat) => digits_len ((digits n).length - j) 10 (by omega) (by omega)
  clear hzn
  go_enter Tryd.func6, Tryd.ntmps6
  go_wp2_with fail
  refine hw.mono ?_
  rintro e w1 ⟨rfl, k1⟩
  clear hw
  go_wp2_with fail
  refine (hD _).mono ?_
  rintro e w2 ⟨rfl, k2⟩
  have b2 := k1.trans (k2.mono k1.size)
  clear hD k1 k2
  have hss := txt_size (digits n)
  obtain ⟨s, hse⟩ : ∃ s, digits n = s := ⟨_, rfl⟩
  rw [hse] at hwb hl hss hP hl1
  simp only [hse] at hwc hwd hs0 hE1 hE3 hl3 ⊢
  go_wp2_with fail
  go_loopw [8, 26] (fun t i wr => ∃ j : Nat, j ≤ zn ∧ t = .string (txt (noughts j)) ∧ i = .int .i64 j ∧ wr = w2) (fun _ i _ => zn - (intOf i).toNat)
  case atStart => exact ⟨0, Nat.zero_le _, by first | rfl | exact ht0 ▸ rfl, rfl, rfl⟩
  case round =>
    obtain ⟨j, hj, rfl, rfl, rfl⟩ := hrel
    by_cases h : j < zn
    · have h' : (j : Int) < (zn : Int) := by omega
      obtain ⟨f1, g1⟩ := add_lit (a := noughts j) (b := [48]) (s := txt [48]) (c := noughts (j + 1)) rfl (by unfold noughts; rw [List.replicate_succ']) (by rw [noughts_len]; omega) (by simp)
      have f1b : ¬ (9223372036854775807 < (txt (noughts j)).size + 1) := by have := txt_size (noughts j); rw [noughts_len] at this; omega
      clear hwb hwc hwd hwc0 hE1 hE2 hE3
      go_wp2_with fail
      go_roundw
      case rel => exact ⟨j + 1, by omega, by first | rfl | rw [g1], by go_num, by first | trivial | rfl⟩
      case measure => simp [intOf]; omega
    · obtain rfl : zn = j := by omega
      have hzl := noughts_len zn
      have hzs := txt_size (noughts zn)
      rw [hzl] at hzs
      have hg : ∃ g : Nat, parse (s ++ noughts zn ++ [69, 45] ++ digits zn) = (ofN n, g) ∧ (g = 0 ∨ (g = 3 ∧ s = [48] ∧ noughts zn ≠ [])) := by
        by_cases h0 : 0 < n ∨ zn = 0
        · exact ⟨0, hwc h0, .inl rfl⟩
        · have hn0 : n = 0 := by omega
          obtain ⟨q1, q2⟩ := hs0 hn0
          refine ⟨3, ?_, .inr ⟨rfl, q1, ?_⟩⟩
          · rw [q2, q1, ← digits_zero]
            exact hwc0 (by omega)
          · intro e
            rw [e] at hzl
            simp at hzl
            omega
      obtain ⟨g, hgp, hg0⟩ := hg
      clear hwc hwc0 hs0
      obtain ⟨p, hpe⟩ : ∃ p, ofN n = p := ⟨_, rfl⟩
      rw [hpe] at hP hwb hgp
      simp only [hpe] at hwd
      obtain ⟨z, hze⟩ : ∃ z, noughts zn = z := ⟨_, rfl⟩
      rw [hze] at hwb hgp hzl hzs hg0 ⊢
      obtain ⟨E1, hE1e⟩ : ∃ E, digits (s.length + zn) = E := ⟨_, rfl⟩
      obtain ⟨E2, hE2e⟩ : ∃ E, digits zn = E := ⟨_, rfl⟩
      rw [hE1e] at hwb hl1
      rw [hE2e] at hgp hl2
      simp only [hE1e] at hE1
      simp only [hE2e] at hE2
      obtain ⟨at', hat⟩ : ∃ a, k % (s.length + 1) = a := ⟨_, rfl⟩
      have hatl : at' ≤ s.length := by have := Nat.mod_lt k (show 0 < s.length + 1 by omega); omega
      have hai : (k : Int).tmod ((s.length : Int) + 1) = (at' : Int) := by
        rw [Int.tmod_eq_emod_of_nonneg (by omega), show ((s.length : Int) + 1) = ((s.length + 1 : Nat) : Int) by omega, ← Int.natCast_emod, hat]
      have hnz : ((s.length : Int) + 1 == 0) = false := by simp; omega
      have wat : IntKind.i64.wrap (at' : Int) = (at' : Int) := by simp only [IntKind.wrap, IntKind.signed, IntKind.bits]; simp; omega
      have wls : IntKind.i64.wrap ((s.length : Int) + (zn : Int)) = (s.length : Int) + (zn : Int) := by simp only [IntKind.wrap, IntKind.signed, IntKind.bits]; simp; omega
      simp only [Int.natCast_add] at hE1
      -- the texts, step by step
      obtain ⟨T1, h1⟩ : ∃ T, [48, 46] ++ z = T := ⟨_, rfl⟩
      rw [h1] at hwb
      obtain ⟨T2, h2⟩ : ∃ T, T1 ++ s = T := ⟨_, rfl⟩
      rw [h2] at hwb
      obtain ⟨T3, h3⟩ : ∃ T, T2 ++ z = T := ⟨_, rfl⟩
      rw [h3] at hwb
      obtain ⟨T4, h4⟩ : ∃ T, T3 ++ [101] = T := ⟨_, rfl⟩
      rw [h4] at hwb
      obtain ⟨T5, h5⟩ : ∃ T, T4 ++ E1 = T := ⟨_, rfl⟩
      rw [h5] at hwb
      obtain ⟨U1, u1⟩ : ∃ T, s ++ z = T := ⟨_, rfl⟩
      rw [u1] at hgp
      obtain ⟨U2, u2⟩ : ∃ T, U1 ++ [69, 45] = T := ⟨_, rfl⟩
      rw [u2] at hgp
      obtain ⟨U3, u3⟩ : ∃ T, U2 ++ E2 = T := ⟨_, rfl⟩
      rw [u3] at hgp
      have G1 := add_litL (s := ⟨#[48, 46]⟩) rfl h1
      have G2 := add_txt T1 s
      rw [h2] at G2
      have G3 := add_txt T2 z
      rw [h3] at G3
      have G4 : txt T3 ++ (⟨#[101]⟩ : ByteArray) = txt T4 := (add_lit rfl h4 (by rw [← h3, ← h2, ← h1]; simp; omega) (by simp)).2
      have G5 := add_txt T4 E1
      rw [h5] at G5
      have K1 := add_txt s z
      rw [u1] at K1
      have K2 : txt U1 ++ (⟨#[69, 45]⟩ : ByteArray) = txt U2 := (add_lit rfl u2 (by rw [← u1]; simp; omega) (by simp)).2
      have K3 := add_txt U2 E2
      rw [u3] at K3
      have n1 := congrArg List.length h1
      have n2 := congrArg List.length h2
      have n3 := congrArg List.length h3
      have n4 := congrArg List.length h4
      have n5 := congrArg List.length h5
      have m1 := congrArg List.length u1
      have m2 := congrArg List.length u2
      have m3 := congrArg List.length u3
      rw [List.length_append] at n1 n2 n3 n4 n5 m1 m2 m3
      simp only [List.length_cons, List.length_nil] at n1 n4 m2
      have e1 := txt_size T1
      have e2 := txt_size T2
      have e3 := txt_size T3
      have e4 := txt_size T4
      have e5 := txt_size U1
      have e6 := txt_size U2
      have e7 := txt_size E1
      have e8 := txt_size E2
      have F1 : ¬ (9223372036854775807 < 2 + zn) := by omega
      have F2 : ¬ (9223372036854775807 < (txt T1).size + s.length) := by omega
      have F3 : ¬ (9223372036854775807 < (txt T2).size + zn) := by omega
      have F4 : ¬ (9223372036854775807 < (txt T3).size + 1) := by omega
      have F5 : ¬ (9223372036854775807 < (txt T4).size + (txt E1).size) := by omega
      have F6 : ¬ (9223372036854775807 < s.length + zn) := by omega
      have F7 : ¬ (9223372036854775807 < (txt U1).size + 2) := by omega
      have F8 : ¬ (9223372036854775807 < (txt U2).size + (txt E2).size) := by omega
      have hpA := fun wx (h : Ok wx) => nparse_any h (l := s) (by omega)
      have hpB := fun wx (h : Ok wx) => nparse_any h (l := T5) (by omega)
      have hpC := fun wx (h : Ok wx) => nparse_any h (l := U3) (by omega)
      simp only [hP] at hpA
      simp only [hwb] at hpB
      simp only [hgp] at hpC
      simp only [parseV, numV] at hpA hpB hpC
      clear h1 h2 h3 h4 h5 u1 u2 u3 n1 n2 n3 n4 n5 m1 m2 m3 e1 e2 e3 e4 e5 e6 e7 e8 hP hwb hgp hpe hze hE1e hE2e hl1 hl2 hat
      have HWD := Lib.hid hwd
      have HE3 := Lib.hid hE3
      have HL3 := Lib.hid hl3
      clear hwd hE3 hl3
      go_wp2_with fail
      refine (hpA _ (ho.below b2)).mono ?_
      rintro e w3 ⟨rfl, k3⟩
      have b3 := b2.trans (k3.mono b2.size)
      have hA := World.alloc_heap_new w3 (.cells #[.bool p.neg, .string (txt p.dig), .int .i64 p.exp] 24)
      have b3' := b3.alloc b3.size (.cells #[.bool p.neg, .string (txt p.dig), .int .i64 p.exp] 24)
      clear b2 k3 hpA
      go_wp2_with fail
      refine (hE1 _).mono ?_
      rintro e w4 ⟨rfl, k4⟩
      have b4 := b3'.trans (k4.mono b3'.size)
      have hA4 := (k4.block _ (lt_of_heap hA)).trans hA
      clear k4 hE1 hA b3'
      go_wp2_with fail
      refine (hpB _ (ho.below b4)).mono ?_
      rintro e w5 ⟨rfl, k5⟩
      have b5 := b4.trans (k5.mono b4.size)
      have hA5 := new_of ((k5.block _ (lt_of_heap hA4)).trans hA4) (.cells #[.bool p.neg, .string (txt p.dig), .int .i64 p.exp] 24)
      have hB5 := World.alloc_heap_new w5 (.cells #[.bool p.neg, .string (txt p.dig), .int .i64 p.exp] 24)
      have b5' := b5.alloc b5.size (.cells #[.bool p.neg, .string (txt p.dig), .int .i64 p.exp] 24)
      clear k5 hpB b4 hA4
      go_wp2_with fail
      refine (hE2 _).mono ?_
      rintro e w6 ⟨rfl, k6⟩
      have b6 := b5'.trans (k6.mono b5'.size)
      have hA6 := (k6.block _ (lt_of_heap hA5)).trans hA5
      have hB6 := (k6.block _ (lt_of_heap hB5)).trans hB5
      clear k6 hE2 b5' hA5 hB5
      go_wp2_with fail
      refine (hpC _ (ho.below b6)).mono ?_
      rintro e w7 ⟨rfl, k7⟩
      have b7 := b6.trans (k7.mono b6.size)
      have hA7 := (k7.block _ (lt_of_heap hA6)).trans hA6
      have hB7 := (k7.block _ (lt_of_heap hB6)).trans hB6
      obtain ⟨ga, hga⟩ : ∃ ga, w3.heap.size = ga := ⟨_, rfl⟩
      obtain ⟨gb, hgb⟩ : ∃ gb, w5.heap.size = gb := ⟨_, rfl⟩
      rw [hga] at hA7 ⊢
      rw [hgb] at hB7 ⊢
      clear k7 hpC b6 hA6 hB6 hga hgb b5 b3
      obtain ⟨a0, a1, a2⟩ := three hA7
      obtain ⟨c0, c1, c2⟩ := three hB7
      have lga := lt_of_heap hA7
      have lgb := lt_of_heap hB7
      have b8 := (b7.alloc b7.size (.cells #[.bool p.neg, .string (txt p.dig), .int .i64 p.exp] 24)).alloc (b7.alloc b7.size (.cells #[.bool p.neg, .string (txt p.dig), .int .i64 p.exp] 24)).size (.cells #[.bool p.neg, .string (txt p.dig), .int .i64 p.exp] 24)
      by_cases hj : 0 < at' ∧ at' < s.length
      · have q1 : decide (0 < at') = true := by simp; omega
        have q2 : decide (at' < s.length) = true := by simp; omega
        have hA8 := new_of (new_of hA7 (.cells #[.bool p.neg, .string (txt p.dig), .int .i64 p.exp] 24)) (.cells #[.bool p.neg, .string (txt p.dig), .int .i64 p.exp] 24)
        have hB8 := new_of (new_of hB7 (.cells #[.bool p.neg, .string (txt p.dig), .int .i64 p.exp] 24)) (.cells #[.bool p.neg, .string (txt p.dig), .int .i64 p.exp] 24)
        have hC8 := new_of (World.alloc_heap_new w7 (.cells #[.bool p.neg, .string (txt p.dig), .int .i64 p.exp] 24)) (.cells #[.bool p.neg, .string (txt p.dig), .int .i64 p.exp] 24)
        have hD8 := World.alloc_heap_new (w7.alloc (.cells #[.bool p.neg, .string (txt p.dig), .int .i64 p.exp] 24)) (.cells #[.bool p.neg, .string (txt p.dig), .int .i64 p.exp] 24)
        rw [World.size_alloc] at hD8
        have hdi : (s.length : Int) - (at' : Int) = ((s.length - at' : Nat) : Int) := by omega
        have hE3 := fun wx => HE3.out at' hatl wx
        have hl3 := HL3.out at'
        have hwd := HWD.out at' hj.1 hj.2
        have s1 := fun wx => slH (l := s) (z := (at' : Int)) (k := at') rfl hatl wx
        have s2 := fun wx => slL (l := s) (z := (at' : Int)) (k := at') rfl hatl wx
        obtain ⟨d, hd⟩ : ∃ d, s.length - at' = d := ⟨_, rfl⟩
        rw [hd] at hdi hl3 hwd
        simp only [hd] at hE3
        have wd : IntKind.i64.wrap (d : Int) = (d : Int) := by simp only [IntKind.wrap, IntKind.signed, IntKind.bits]; simp; omega
        obtain ⟨E3, hE3e⟩ : ∃ E, digits d = E := ⟨_, rfl⟩
        rw [hE3e] at hl3 hwd
        simp only [hE3e] at hE3
        have v0l : (s.take at').length ≤ 10 := by rw [List.length_take]; omega
        have vdl : (s.drop at').length ≤ 10 := by rw [List.length_drop]; omega
        generalize s.take at' = V0 at *
        generalize s.drop at' = Vd at *
        obtain ⟨V1, v1⟩ : ∃ T, V0 ++ [46] = T := ⟨_, rfl⟩
        rw [v1] at hwd
        obtain ⟨V2, v2⟩ : ∃ T, V1 ++ Vd = T := ⟨_, rfl⟩
        rw [v2] at hwd
        obtain ⟨V3, v3⟩ : ∃ T, V2 ++ [101, 43] = T := ⟨_, rfl⟩
        rw [v3] at hwd
        obtain ⟨V4, v4⟩ : ∃ T, V3 ++ E3 = T := ⟨_, rfl⟩
        rw [v4] at hwd
        have n1 := congrArg List.length v1
        have n2 := congrArg List.length v2
        have n3 := congrArg List.length v3
        have n4 := congrArg List.length v4
        rw [List.length_append] at n1 n2 n3 n4
        simp only [List.length_cons, List.length_nil] at n1 n3
        have L1 : txt V0 ++ (⟨#[46]⟩ : ByteArray) = txt V1 := (add_lit rfl v1 (by omega) (by simp)).2
        have L2 := add_txt V1 Vd
        rw [v2] at L2
        have L3 : txt V2 ++ (⟨#[101, 43]⟩ : ByteArray) = txt V3 := (add_lit rfl v3 (by omega) (by simp)).2
        have L4 := add_txt V3 E3
        rw [v4] at L4
        have e0 := txt_size V0
        have e1 := txt_size V1
        have e2 := txt_size V2
        have e3 := txt_size V3
        have e4 := txt_size Vd
        have e5 := txt_size E3
        have P1 : ¬ (9223372036854775807 < (txt V0).size + 1) := by omega
        have P2 : ¬ (9223372036854775807 < (txt V1).size + (txt Vd).size) := by omega
        have P3 : ¬ (9223372036854775807 < (txt V2).size + 2) := by omega
        have P4 : ¬ (9223372036854775807 < (txt V3).size + (txt E3).size) := by omega
        have hpD := fun wx (h : Ok wx) => nparse_any h (l := V4) (by omega)
        simp only [hwd] at hpD
        simp only [parseV, numV] at hpD
        have hz7 := b7.size
        have hx1 : ga ≠ w7.heap.size + 1 := by omega
        have hx2 : gb ≠ w7.heap.size + 1 := by omega
        have hx3 : w7.heap.size ≠ w7.heap.size + 1 := by omega
        have hx4 : w.heap.size ≤ w7.heap.size + 1 := by omega
        clear HWD HE3 HL3 G1 G2 G3 G4 G5 K1 K2 K3 F1 F2 F3 F4 F5 F6 F7 F8 hj hwd v1 v2 v3 v4 n1 n2 n3 n4 e0 e1 e2 e3 e4 e5 hE3e hl3 hd
        go_upto_region 15 with fail
        clear a0 a1 a2 c0 c1 c2 hA7 hB7
        go_region_held3 (fun wx => wx.heap[ga]? = some (.cells #[.bool p.neg, .string (txt p.dig), .int .i64 p.exp] 24 (0, 0)) ∧ wx.heap[gb]? = some (.cells #[.bool p.neg, .string (txt p.dig), .int .i64 p.exp] 24 (0, 0)) ∧ wx.heap[w7.heap.size]? = some (.cells #[.bool p.neg, .string (txt p.dig), .int .i64 p.exp] 24 (0, 0)) ∧ wx.heap[w7.heap.size + 1]? = some (.cells #[.bool p.neg, .string (txt p.dig), .int .i64 p.exp] 24 (0, 0)) ∧ Below w.heap.size w wx)
          (first | exact ⟨hA8, hB8, hC8, hD8, below_drewN b8 1⟩ | exact five_store ⟨n0, n1, n2, n3, n4⟩ hx1 hx2 hx3 hx4 | exact ⟨by assumption, by assumption, by assumption, by assumption, by assumption⟩ | assumption)
          (first
            | (go_at_call 19; refine (hE3 _).mono ?_; rintro e wx ⟨rfl, kx⟩; have nS := five_step (w := w) (by assumption) kx; obtain ⟨n0, n1, n2, n3, n4⟩ := nS)
            | (go_at_call 9; refine (hpD _ (ho.below n4)).mono ?_; rintro e wx ⟨rfl, kx⟩; have nS := five_step (w := w) (by assumption) kx; obtain ⟨n0, n1, n2, n3, n4⟩ := nS; have nT := three n3; obtain ⟨r0, r1, r2⟩ := nT; have rf := free_of n3))
        all_goals
          obtain ⟨g0, g1, g2, g3, g4⟩ := five_store ⟨n0, n1, n2, n3, n4⟩ hx1 hx2 hx3 hx4
          clear n0 n1 n2 n3 n4 r0 r1 r2 rf hA8 hB8 hC8 hD8 b7 b8 L1 L2 L3 L4 P1 P2 P3 P4
          generalize (((wx.setCell ⟨w7.heap.size + 1, 0, none⟩ (.bool p.neg)).setCell ⟨w7.heap.size + 1, 1, none⟩ (.string (txt p.dig))).setCell ⟨w7.heap.size + 1, 2, none⟩ (.int .i64 p.exp)) = wz at *
          obtain ⟨a0, a1, a2⟩ := three g0
          obtain ⟨c0, c1, c2⟩ := three g1
          obtain ⟨d0, d1, d2⟩ := three g2
          obtain ⟨e0, e1, e2⟩ := three g3
          rcases hg0 with rfl | ⟨rfl, hs48, hzne⟩
          · go_wp2_with fail
            go_ret
            exact ⟨rfl, g4⟩
          · have hsq : ((txt s).toList == (txt [48]).toList) = true := by rw [hs48]; simp
            have hzq := txt_ne hzne
            clear hs48
            go_wp2_with fail
            go_ret
            exact ⟨rfl, g4⟩
      · have hjc : decide (0 < at') = false ∨ (decide (0 < at') = true ∧ decide (at' < s.length) = false) := by
          simp
          omega
        clear HWD HE3 HL3 G1 G2 G3 G4 G5 K1 K2 K3 F1 F2 F3 F4 F5 F6 F7 F8 hj
        rcases hjc with q | ⟨q, q'⟩
        all_goals
          rcases hg0 with rfl | ⟨rfl, hs48, hzne⟩
          · go_wp2_with fail
            go_ret
            exact ⟨rfl, b8⟩
          · have hsq : ((txt s).toList == (txt [48]).toList) = true := by rw [hs48]; simp
            have hzq := txt_ne hzne
            clear hs48
            go_wp2_with fail
            go_ret
            exact ⟨rfl, b8⟩
theorem ways_int {w : World} {n k m : Int} (ho : Ok w) (hn0 : 0 ≤ n) (hn : n ≤ 4294967295) (hk0 : 0 ≤ k) (hk : k ≤ 255) (hm0 : 0 ≤ m) (hm : m ≤ 255) : Calls Tryd.prog 6 #[.int .u32 n, .int .u8 k, .int .u8 m] w fun e w' => e = .returned (.bool true) ∧ Below w.heap.size w w' := by
  obtain ⟨n, rfl⟩ := Int.eq_ofNat_of_zero_le hn0
  obtain ⟨k, rfl⟩ := Int.eq_ofNat_of_zero_le hk0
  obtain ⟨m, rfl⟩ := Int.eq_ofNat_of_zero_le hm0
  exact ways_law ho (by omega) (by omega) (by omega)
end Go.Proofs.YtkhdahfppajdoaaDoor.Num
