/- The contract of varint.Get. Nothing is claimed here. -/
import Derived.Test.YtkbdahbnjklkoaaBytes
import Derived.Test.YtkbdahbnjklkoaaVarSpec
import Derived.Lib.Hide
namespace Go.Proofs.Ytkbdahbnjklkoaa.Var
open Go.RowKit Kit Byt

/-- What Get answers. -/
def getV (r : Nat × Nat × Nat) : Value := .tuple #[.int .u64 r.1, .int .i64 r.2.1, .int .i64 r.2.2]

theorem and127 : ∀ x : Nat, x < 256 → bits .and .u8 (x : Int) 127 = ((x % 128 : Nat) : Int) := by decide +kernel

/-- A group laid above those so far: a sum. -/
theorem or_group {x g k : Nat} (hx : x < 128 ^ k) (h : x + g * 128 ^ k < 18446744073709551616) : bits .or .u64 (x : Int) ((g * 128 ^ k : Nat) : Int) = ((x + g * 128 ^ k : Nat) : Int) := by
  rw [u64_or_nat _ _ (by omega) (by omega)]
  have e7 : 128 ^ k = 2 ^ (7 * k) := by rw [Nat.pow_mul]
  rw [e7] at hx h ⊢
  have h1 := Nat.shiftLeft_add_eq_or_of_lt (b := x) (i := 7 * k) hx g
  rw [Nat.shiftLeft_eq] at h1
  rw [Nat.or_comm, ← h1, Nat.add_comm]

set_option maxRecDepth 100000 in
set_option maxHeartbeats 2000000 in
theorem get_eq {w : World} {v : Value} {l : List Nat} (hx : Bs w v l) (_h1 : l.length < 1000000000) :
    Calls Try.prog 35 #[v] w fun e w' => e = .returned (getV (get l)) ∧ w' = w := by
  obtain ⟨lb, a, c, rfl, _, hx⟩ := hx
  go_enter Try.func35, Try.ntmps35
  go_wp2_with fail
  go_loopw [2, 9] (fun n i wr => ∃ (k x : Nat), k ≤ l.length ∧ i = .int .i64 k ∧ n = .int .u64 x ∧ k ≤ 9 ∧ x < 128 ^ k ∧ get l = getF k x (l.drop k) ∧ wr = w) (fun _ i _ => l.length - (intOf i).toNat)
  case atStart => exact ⟨0, 0, Nat.zero_le _, rfl, rfl, by omega, by decide, rfl, rfl⟩
  case round =>
    obtain ⟨k, x, hk, rfl, rfl, hk9, hxl, hget, rfl⟩ := hrel
    by_cases hlt : k < l.length
    · obtain ⟨g, off, rfl, hg, hcx⟩ := hx.resolve_left (fun e => by rw [e] at hlt; simp at hlt)
      have p1 := hcx k l[k] (List.getElem?_eq_getElem hlt)
      have hlt' : (k : Int) < (l.length : Int) := by omega
      have hbk := lb _ (List.getElem_mem hlt)
      have hd : l.drop k = l[k] :: l.drop (k + 1) := List.drop_eq_getElem_cons hlt
      rw [hd] at hget
      clear hcx hd hx
      generalize l[k] = b at *
      have H1 := Lib.hid hget
      clear hget
      by_cases hbig : (k = 9 ∧ (1 < b % 128 ∨ 128 ≤ b)) ∨ 9 < k
      · have H3 := Lib.hid (getF_big (acc := x) (r := l.drop (k + 1)) hbig)
        obtain rfl : k = 9 := by omega
        have hb1 : decide ((1 : Int) < (b : Int)) = true := by simp; omega
        clear hbig
        go_wp2_with fail
        refine bodyPost_ret (v := getV (0, 0, 4)) (by simp [results, Try.results35, go_sem, getV]) rfl ⟨?_, rfl⟩
        rw [H1.out, H3.out]
      · have hbg : (((k : Int) == 9) = true ∧ decide ((1 : Int) < (b : Int)) = false) ∨ (((k : Int) == 9) = false) := by
          simp
          omega
        by_cases hform : b = 0 ∧ 0 < k
        · have H3 := Lib.hid (getF_form (acc := x) (r := l.drop (k + 1)) hbig hform)
          obtain ⟨rfl, h0k⟩ := hform
          have h0k' : decide (0 < k) = true := by simp; omega
          clear hbig
          rcases hbg with ⟨c1, c2⟩ | c1
          all_goals
            go_wp2_with fail
            refine bodyPost_ret (v := getV (0, 0, 3)) (by simp [results, Try.results35, go_sem, getV]) rfl ⟨?_, rfl⟩
            rw [H1.out, H3.out]
        · have hfm : (decide (0 < k) = true ∧ ((b : Int) == 0) = false) ∨ decide (0 < k) = false := by
            simp
            omega
          have h64 := acc_64 hbig hxl
          have hg1 := or_group (g := b % 128) hxl h64
          obtain ⟨z, hz⟩ : ∃ z, b % 128 * 128 ^ k = z := ⟨_, rfl⟩
          obtain ⟨u, hu⟩ : ∃ u, x + z = u := ⟨_, rfl⟩
          rw [hz, hu] at h64 hg1
          have ha1 := and127 b hbk
          have hm1 : IntKind.i64.wrap (7 * (k : Int)) = ((7 * k : Nat) : Int) := by
            simp only [IntKind.wrap, IntKind.signed, IntKind.bits]
            simp
            omega
          obtain ⟨j, hj⟩ : ∃ j, 7 * k = j := ⟨_, rfl⟩
          rw [hj] at hm1
          have hj0 : (0 : Int) ≤ (j : Int) := by omega
          have hj1 : (j : Int) ≤ 64 := by omega
          have hs1 : IntKind.u64.wrap ((b : Int) % 128 * 2 ^ j) = (z : Int) := by
            have e7 : 128 ^ k = 2 ^ (7 * k) := by rw [Nat.pow_mul]
            have e : (b : Int) % 128 * 2 ^ j = (z : Int) := by
              rw [← hz, e7, hj, Int.natCast_mul, Int.natCast_pow]
              rfl
            rw [e]
            simp only [IntKind.wrap, IntKind.signed, IntKind.bits]
            simp
            omega
          by_cases hb : b < 128
          · have H3 := Lib.hid (getF_last (acc := x) (r := l.drop (k + 1)) hbig hform hb)
            have hb' : decide ((b : Int) < 128) = true := by simp; omega
            have hc4 : (getF k x (b :: l.drop (k + 1))) = (u, k + 1, 0) := by rw [H3.out, hz, hu]
            have H4 := Lib.hid hc4
            clear hbig hform h64 hc4 hz hu H3 hj
            rcases hbg with ⟨c1, c2⟩ | c1
            all_goals
              rcases hfm with ⟨d1, d2⟩ | d1
              all_goals
                go_wp2_with fail
                refine bodyPost_ret (v := getV (u, k + 1, 0)) (by simp [results, Try.results35, go_sem, getV]) rfl ⟨?_, rfl⟩
                rw [H1.out, H4.out]
          · have H3 := Lib.hid (getF_on (acc := x) (r := l.drop (k + 1)) hbig hform (by omega))
            have hb' : decide ((b : Int) < 128) = false := by simp; omega
            have hk8 : k ≤ 8 := by omega
            have hul : u < 128 ^ (k + 1) := by rw [← hu, ← hz]; exact acc_lt hk8 hxl
            have hc4 : getF k x (b :: l.drop (k + 1)) = getF (k + 1) u (l.drop (k + 1)) := by rw [H3.out, hz, hu]
            have H4 := Lib.hid (H1.out.trans hc4)
            have H5 := Lib.hid hul
            clear hbig hform h64 hc4 hz hu H3 hj hul
            rcases hbg with ⟨c1, c2⟩ | c1
            all_goals
              rcases hfm with ⟨d1, d2⟩ | d1
              all_goals
                go_wp2_with fail
                go_roundw
                case rel => exact ⟨k + 1, u, by omega, by go_num, rfl, by omega, H5.out, H4.out, by first | trivial | rfl⟩
                case measure => simp [intOf]; omega
    · obtain rfl : k = l.length := by omega
      rw [List.drop_length, getF_nil] at hget
      clear hxl
      have H1 := Lib.hid hget
      clear hget
      go_wp2_with fail
      refine bodyPost_ret (v := getV (0, 0, 2)) (by simp [results, Try.results35, go_sem, getV]) rfl ⟨by rw [H1.out], rfl⟩
end Go.Proofs.Ytkbdahbnjklkoaa.Var
