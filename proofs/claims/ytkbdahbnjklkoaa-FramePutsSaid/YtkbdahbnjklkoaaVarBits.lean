/- The contracts of math/bits.Len64 and of varint.Size: how many bits, how many bytes. Nothing is claimed here. -/
import Derived.Test.YtkbdahbnjklkoaaBytes
import Derived.Test.YtkbdahbnjklkoaaVarSpec
import Derived.Laws.MathBits
import Derived.Lib.Tables
import Derived.Lib.Hide
namespace Go.Proofs.Ytkbdahbnjklkoaa.Var
open Go.RowKit Kit Byt

theorem put_size : ∀ (s n : Nat), 0 < n → 128 ^ s ≤ n → n < 128 ^ (s + 1) → (put n).length = s + 1
  | 0, n, _, _, h => by rw [put_lo (by simpa using h)]; rfl
  | s + 1, n, h0, h1, h2 => by
    have e1 : 128 ^ (s + 1) = 128 ^ s * 128 := Nat.pow_succ ..
    have e2 : 128 ^ (s + 1 + 1) = 128 ^ (s + 1) * 128 := Nat.pow_succ ..
    have hp : 0 < 128 ^ s := Nat.pow_pos (by omega)
    rw [put_hi (by omega), List.length_cons, put_size s (n / 128) (by omega) (by omega) (by omega)]

/-- How many bytes so many bits are. -/
theorem size_of_bits {n : Nat} (h : n < 18446744073709551616) : (put n).length = max 1 ((bitLen n + 7 - 1) / 7) := by
  obtain ⟨h1, h2⟩ := bitLen_spec n
  by_cases h0 : n = 0
  · subst h0
    rw [put_lo (by omega)]
    rfl
  · have h3 := h2 h0
    have hb : 0 < bitLen n := by unfold bitLen; rw [if_neg h0]; omega
    generalize bitLen n = b at *
    obtain ⟨s, hs⟩ : ∃ s, (b - 1) / 7 = s := ⟨_, rfl⟩
    have e7 : ∀ k, 128 ^ k = 2 ^ (7 * k) := fun k => by rw [Nat.pow_mul]
    rw [put_size s n (by omega) ?_ ?_]
    · omega
    · rw [e7]
      exact Nat.le_trans (Nat.pow_le_pow_right (by omega) (by omega)) h3
    · rw [e7]
      exact Nat.lt_of_lt_of_le h1 (Nat.pow_le_pow_right (by omega) (by omega))

theorem bitLen_64 {n : Nat} (h : n < 18446744073709551616) : bitLen n ≤ 64 := by
  by_cases h0 : n = 0
  · subst h0; decide
  · have h3 := (bitLen_spec n).2 h0
    by_cases hb : bitLen n ≤ 64
    · exact hb
    · have : 2 ^ 64 ≤ 2 ^ (bitLen n - 1) := Nat.pow_le_pow_right (by omega) (by omega)
      have e : 2 ^ 64 = 18446744073709551616 := by decide
      omega

theorem len8_256 : ∀ i : Fin 256, Lib.len8 (i.val : Int) = (bitLen i.val : Int) := by decide +kernel
theorem len8tab_256 : ∀ i : Fin 256, (Lib.len8tab[i.val]'(by rw [Lib.len8tab_size]; exact i.isLt)).toNat = bitLen i.val := by decide +kernel
theorem len8tab_is (i : Nat) (h : i < Lib.len8tab.size) : (Lib.len8tab[i]'h).toNat = bitLen i := len8tab_256 ⟨i, by rwa [Lib.len8tab_size] at h⟩
theorem len8_is {x : Nat} (h : x < 256) : Lib.len8 (x : Int) = (bitLen x : Int) := len8_256 ⟨x, h⟩

theorem idx_tab {y : Int} (h0 : 0 ≤ y) (h1 : y ≤ 255) (wx : World) : (Instr.index 9 (.string Lib.len8tab) (.int .u8 y)).run Try.prog wx = .ok (.int .u8 (bitLen y.toNat)) wx := by
  rw [Lib.run_index_len8tab wx 9 .u8 y (by kernel_rfl) h0 h1]
  have h := len8_is (x := y.toNat) (by omega)
  rw [Int.toNat_of_nonneg h0] at h
  rw [h]

set_option maxHeartbeats 4000000 in
set_option maxRecDepth 100000 in
theorem len64_int {w : World} {x : Int} (h0 : 0 ≤ x) (h1 : x ≤ 18446744073709551615) :
    Calls Try.prog 36 #[.int .u64 x] w fun e w' => e = .returned (.int .i64 (bitLen x.toNat)) ∧ w' = w := by
  go_enter Try.func36, Try.ntmps36
  by_cases c1 : 4294967296 ≤ x
  · by_cases c2 : 65536 ≤ x / 4294967296
    · by_cases c3 : 256 ≤ x / 4294967296 / 65536
      · have hy0 : 0 ≤ x / 4294967296 / 65536 / 256 := by omega
        have hy1 : x / 4294967296 / 65536 / 256 ≤ 255 := by omega
        have hix := idx_tab hy0 hy1
        have he : (x / 4294967296 / 65536 / 256).toNat = x.toNat / 2 ^ 56 := by rw [show 2 ^ 56 = 72057594037927936 by decide]; omega
        have hs := bitLen_shift x.toNat 56 (by rw [show 2 ^ 56 = 72057594037927936 by decide]; omega)
        rw [← he] at hs
        have h8 := bitLen_le8 (x / 4294967296 / 65536 / 256).toNat (by omega)
        obtain ⟨t, ht⟩ : ∃ t, bitLen (x / 4294967296 / 65536 / 256).toNat = t := ⟨_, rfl⟩
        rw [ht] at hix hs h8
        rw [hs]
        clear hs ht he
        go_wp2_with fail
        go_ret
        simp
      · have c3' : decide (256 ≤ x / 4294967296 / 65536) = false := by simp; omega
        have hy0 : 0 ≤ x / 4294967296 / 65536 := by omega
        have hy1 : x / 4294967296 / 65536 ≤ 255 := by omega
        have hix := idx_tab hy0 hy1
        have he : (x / 4294967296 / 65536).toNat = x.toNat / 2 ^ 48 := by rw [show 2 ^ 48 = 281474976710656 by decide]; omega
        have hs := bitLen_shift x.toNat 48 (by rw [show 2 ^ 48 = 281474976710656 by decide]; omega)
        rw [← he] at hs
        have h8 := bitLen_le8 (x / 4294967296 / 65536).toNat (by omega)
        obtain ⟨t, ht⟩ : ∃ t, bitLen (x / 4294967296 / 65536).toNat = t := ⟨_, rfl⟩
        rw [ht] at hix hs h8
        rw [hs]
        clear hs ht he
        go_wp2_with fail
        go_ret
        simp
    · have c2' : decide (65536 ≤ x / 4294967296) = false := by simp; omega
      by_cases c3 : 256 ≤ x / 4294967296
      · have hy0 : 0 ≤ x / 4294967296 / 256 := by omega
        have hy1 : x / 4294967296 / 256 ≤ 255 := by omega
        have hix := idx_tab hy0 hy1
        have he : (x / 4294967296 / 256).toNat = x.toNat / 2 ^ 40 := by rw [show 2 ^ 40 = 1099511627776 by decide]; omega
        have hs := bitLen_shift x.toNat 40 (by rw [show 2 ^ 40 = 1099511627776 by decide]; omega)
        rw [← he] at hs
        have h8 := bitLen_le8 (x / 4294967296 / 256).toNat (by omega)
        obtain ⟨t, ht⟩ : ∃ t, bitLen (x / 4294967296 / 256).toNat = t := ⟨_, rfl⟩
        rw [ht] at hix hs h8
        rw [hs]
        clear hs ht he
        go_wp2_with fail
        go_ret
        simp
      · have c3' : decide (256 ≤ x / 4294967296) = false := by simp; omega
        have hy0 : 0 ≤ x / 4294967296 := by omega
        have hy1 : x / 4294967296 ≤ 255 := by omega
        have hix := idx_tab hy0 hy1
        have he : (x / 4294967296).toNat = x.toNat / 2 ^ 32 := by rw [show 2 ^ 32 = 4294967296 by decide]; omega
        have hs := bitLen_shift x.toNat 32 (by rw [show 2 ^ 32 = 4294967296 by decide]; omega)
        rw [← he] at hs
        have h8 := bitLen_le8 (x / 4294967296).toNat (by omega)
        obtain ⟨t, ht⟩ : ∃ t, bitLen (x / 4294967296).toNat = t := ⟨_, rfl⟩
        rw [ht] at hix hs h8
        rw [hs]
        clear hs ht he
        go_wp2_with fail
        go_ret
        simp
  · have c1' : decide (4294967296 ≤ x) = false := by simp; omega
    by_cases c2 : 65536 ≤ x
    · by_cases c3 : 256 ≤ x / 65536
      · have hy0 : 0 ≤ x / 65536 / 256 := by omega
        have hy1 : x / 65536 / 256 ≤ 255 := by omega
        have hix := idx_tab hy0 hy1
        have he : (x / 65536 / 256).toNat = x.toNat / 2 ^ 24 := by rw [show 2 ^ 24 = 16777216 by decide]; omega
        have hs := bitLen_shift x.toNat 24 (by rw [show 2 ^ 24 = 16777216 by decide]; omega)
        rw [← he] at hs
        have h8 := bitLen_le8 (x / 65536 / 256).toNat (by omega)
        obtain ⟨t, ht⟩ : ∃ t, bitLen (x / 65536 / 256).toNat = t := ⟨_, rfl⟩
        rw [ht] at hix hs h8
        rw [hs]
        clear hs ht he
        go_wp2_with fail
        go_ret
        simp
      · have c3' : decide (256 ≤ x / 65536) = false := by simp; omega
        have hy0 : 0 ≤ x / 65536 := by omega
        have hy1 : x / 65536 ≤ 255 := by omega
        have hix := idx_tab hy0 hy1
        have he : (x / 65536).toNat = x.toNat / 2 ^ 16 := by rw [show 2 ^ 16 = 65536 by decide]; omega
        have hs := bitLen_shift x.toNat 16 (by rw [show 2 ^ 16 = 65536 by decide]; omega)
        rw [← he] at hs
        have h8 := bitLen_le8 (x / 65536).toNat (by omega)
        obtain ⟨t, ht⟩ : ∃ t, bitLen (x / 65536).toNat = t := ⟨_, rfl⟩
        rw [ht] at hix hs h8
        rw [hs]
        clear hs ht he
        go_wp2_with fail
        go_ret
        simp
    · have c2' : decide (65536 ≤ x) = false := by simp; omega
      by_cases c3 : 256 ≤ x
      · have hy0 : 0 ≤ x / 256 := by omega
        have hy1 : x / 256 ≤ 255 := by omega
        have hix := idx_tab hy0 hy1
        have he : (x / 256).toNat = x.toNat / 2 ^ 8 := by rw [show 2 ^ 8 = 256 by decide]; omega
        have hs := bitLen_shift x.toNat 8 (by rw [show 2 ^ 8 = 256 by decide]; omega)
        rw [← he] at hs
        have h8 := bitLen_le8 (x / 256).toNat (by omega)
        obtain ⟨t, ht⟩ : ∃ t, bitLen (x / 256).toNat = t := ⟨_, rfl⟩
        rw [ht] at hix hs h8
        rw [hs]
        clear hs ht he
        go_wp2_with fail
        go_ret
        simp
      · have c3' : decide (256 ≤ x) = false := by simp; omega
        have hy0 : 0 ≤ x := by omega
        have hy1 : x ≤ 255 := by omega
        have hix := idx_tab hy0 hy1
        have h8 := bitLen_le8 (x).toNat (by omega)
        obtain ⟨t, ht⟩ : ∃ t, bitLen (x).toNat = t := ⟨_, rfl⟩
        rw [ht] at hix h8
        rw [ht]
        clear ht
        go_wp2_with fail
        go_ret
        simp
theorem len64_any {w : World} {n : Nat} (hn : n < 18446744073709551616) :
    Calls Try.prog 36 #[.int .u64 n] w fun e w' => e = .returned (.int .i64 (bitLen n)) ∧ w' = w := by
  have h := len64_int (w := w) (x := (n : Int)) (by omega) (by omega)
  rwa [Int.toNat_natCast] at h

set_option maxRecDepth 100000 in
theorem size_eq {w : World} {n : Nat} (hn : n < 18446744073709551616) :
    Calls Try.prog 31 #[.int .u64 n] w fun e w' => e = .returned (.int .i64 (put n).length) ∧ w' = w := by
  have hb := bitLen_64 hn
  have hs := size_of_bits hn
  generalize (put n).length = s at *
  have hl := len64_any (w := w) hn
  generalize bitLen n = b at *
  clear hn
  go_enter Try.func31, Try.ntmps31
  go_wp2_with fail
  refine hl.mono ?_
  rintro e w1 ⟨rfl, rfl⟩
  have HS := Lib.hid hs
  clear hs
  go_wp2_with fail
  all_goals
    go_ret
    simp
    have hs := HS.out
    omega
end Go.Proofs.Ytkbdahbnjklkoaa.Var
