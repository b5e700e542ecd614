/- The contract of the document's own answer for layer 4 (package tabulariumref04): Get. Nothing is claimed here. -/
import Derived.Test.YtkbdahbnjklkoaaSame
import Derived.Test.YtkbdahbnjklkoaaVarSpec
import Derived.Lib.Hide
namespace Go.Proofs.Ytkbdahbnjklkoaa.Var
open Go.RowKit Kit Byt

/-- The document's answer, as a struct. -/
def readV (r : Nat × Nat × Nat) : Value := .agg #[.int .u64 r.1, .int .i64 r.2.1, .int .i64 r.2.2]

set_option maxRecDepth 100000 in
set_option maxHeartbeats 1000000 in
theorem rget_any {w : World} {v : Value} {l : List Nat} (hx : Bs w v l) (_h1 : l.length < 1000000000) :
    Calls Try.prog 28 #[v] w fun e w' => e = .returned (readV (get l)) ∧ Below w.heap.size w w' := by
  obtain ⟨lb, a, c, rfl, _, hx⟩ := hx
  have hz0 : w.heap.size ≤ w.heap.size := Nat.le_refl _
  go_enter Try.func28, Try.ntmps28
  go_wp2_with fail
  go_loopw [3, 4, 5] (fun n p i wr => ∃ (k x y : Nat), k ≤ l.length ∧ i = .int .i64 k ∧ n = .int .u64 x ∧ p = .int .u64 y ∧ (k ≤ 9 → y = 128 ^ k) ∧ k ≤ 10 ∧ x < 128 ^ k ∧ get l = getF k x (l.drop k) ∧ wr = w.alloc (.cells #[.int .u64 0, .int .i64 0, .int .i64 0] 62)) (fun _ _ i _ => l.length - (intOf i).toNat)
  case atStart => exact ⟨0, 0, 1, Nat.zero_le _, rfl, rfl, rfl, fun _ => rfl, by omega, by decide, rfl, rfl⟩
  case round =>
    obtain ⟨k, x, y, hk, rfl, rfl, rfl, hy, hk10, hxl, hget, rfl⟩ := hrel
    by_cases hlt : k < l.length
    · obtain ⟨g, off, rfl, hg, hcx⟩ := hx.resolve_left (fun e => by rw [e] at hlt; simp at hlt)
      have p1 := hcx k l[k] (List.getElem?_eq_getElem hlt)
      have hlt' : (k : Int) < (l.length : Int) := by omega
      have hbk := lb _ (List.getElem_mem hlt)
      have hd : l.drop k = l[k] :: l.drop (k + 1) := List.drop_eq_getElem_cons hlt
      rw [hd] at hget
      have e1 : (w.alloc (.cells #[.int .u64 0, .int .i64 0, .int .i64 0] 62)).cell? ⟨g, off + k, none⟩ = some (.int .u8 (l[k] : Int)) := (((Below.refl _ w).alloc (Nat.le_refl _) _).cell (p := ⟨g, off + k, none⟩) hg).trans p1
      clear p1 hcx hd hx
      generalize l[k] = b at *
      have H1 := Lib.hid hget
      have H2 := Lib.hid hy
      clear hget hy
      by_cases hbig : (k = 9 ∧ (1 < b % 128 ∨ 128 ≤ b)) ∨ 9 < k
      · have H3 := Lib.hid (getF_big (acc := x) (r := l.drop (k + 1)) hbig)
        have hcase : (((k : Int) == 9) = true ∧ decide ((1 : Int) < (b : Int) % 128) = true) ∨ (((k : Int) == 9) = true ∧ decide ((1 : Int) < (b : Int) % 128) = false ∧ decide ((128 : Int) ≤ (b : Int)) = true) ∨ (((k : Int) == 9) = false ∧ decide ((9 : Int) < (k : Int)) = true) := by
          simp
          omega
        clear hbig
        rcases hcase with ⟨c1, c2⟩ | ⟨c1, c2, c3⟩ | ⟨c1, c2⟩
        all_goals
          go_wp2_with fail
          refine bodyPost_ret (v := readV (0, 0, 4)) (by simp [results, Try.results28, go_sem, readV]) rfl ⟨?_, ?_⟩
          · rw [H1.out, H3.out]
          · exact ((Below.refl _ w).alloc (Nat.le_refl _) _)
      · have hk9 : k ≤ 9 := by omega
        have hbg : (((k : Int) == 9) = true ∧ decide ((1 : Int) < (b : Int) % 128) = false ∧ decide ((128 : Int) ≤ (b : Int)) = false ∧ decide ((9 : Int) < (k : Int)) = false) ∨ (((k : Int) == 9) = false ∧ decide ((9 : Int) < (k : Int)) = false) := by
          simp
          omega
        by_cases hform : b = 0 ∧ 0 < k
        · have H3 := Lib.hid (getF_form (acc := x) (r := l.drop (k + 1)) hbig hform)
          obtain ⟨rfl, h0k⟩ := hform
          have h0k' : decide (0 < k) = true := by simp; omega
          clear hbig
          rcases hbg with ⟨c1, c2, c3, c4⟩ | ⟨c1, c2⟩
          all_goals
            go_wp2_with fail
            refine bodyPost_ret (v := readV (0, 0, 3)) (by simp [results, Try.results28, go_sem, readV]) rfl ⟨?_, ?_⟩
            · rw [H1.out, H3.out]
            · exact (Below.refl _ w).alloc (Nat.le_refl _) _
        · have hfm : (((b : Int) == 0) = true ∧ decide (0 < k) = false) ∨ (((b : Int) == 0) = false) := by
            simp
            omega
          have hyk := H2.out hk9
          have h64 := acc_64 hbig hxl
          obtain ⟨z, hz⟩ : ∃ z, b % 128 * 128 ^ k = z := ⟨_, rfl⟩
          obtain ⟨u, hu⟩ : ∃ u, x + z = u := ⟨_, rfl⟩
          rw [hz, hu] at h64
          have hw1 : IntKind.u64.wrap ((b : Int) % 128 * (y : Int)) = (z : Int) := by
            have e : (b : Int) % 128 * (y : Int) = (z : Int) := by rw [hyk, ← hz]; simp
            rw [e]
            simp only [IntKind.wrap, IntKind.signed, IntKind.bits]
            simp
            omega
          have hw2 : IntKind.u64.wrap ((x : Int) + (z : Int)) = (u : Int) := by
            have e : (x : Int) + (z : Int) = (u : Int) := by omega
            rw [e]
            simp only [IntKind.wrap, IntKind.signed, IntKind.bits]
            simp
            omega
          obtain ⟨q, hw3, hq⟩ : ∃ q : Nat, IntKind.u64.wrap ((y : Int) * 128) = (q : Int) ∧ (k + 1 ≤ 9 → q = 128 ^ (k + 1)) := by
            refine ⟨y * 128 % 18446744073709551616, ?_, fun h => ?_⟩
            · simp only [IntKind.wrap, IntKind.signed, IntKind.bits]
              simp
            · rw [hyk]
              have hp : 128 ^ (k + 1) = 128 ^ k * 128 := Nat.pow_succ ..
              have h2 : 128 ^ (k + 1) ≤ 128 ^ 9 := Nat.pow_le_pow_right (by omega) (by omega)
              have h3 : 128 ^ 9 = 9223372036854775808 := by decide
              rw [← hp]
              omega
          by_cases hb : b < 128
          · have H3 := Lib.hid (getF_last (acc := x) (r := l.drop (k + 1)) hbig hform hb)
            have hb' : decide ((b : Int) < 128) = true := by simp; omega
            have hc4 : (getF k x (b :: l.drop (k + 1))) = (u, k + 1, 0) := by rw [H3.out, hz, hu]
            have H4 := Lib.hid hc4
            clear hbig hform hyk h64 hc4 hz hu hq H3
            rcases hbg with ⟨c1, c2, c3, c4⟩ | ⟨c1, c2⟩
            all_goals
              rcases hfm with ⟨d1, d2⟩ | d1
              all_goals
                go_wp2_with fail
                refine bodyPost_ret (v := .agg #[.int .u64 u, .int .i64 (k + 1), .int .i64 0]) (by simp [results, Try.results28, go_sem]) rfl ⟨?_, ?_⟩
                · rw [H1.out, H4.out]
                  rfl
                · exact (Below.refl _ w).alloc (Nat.le_refl _) _
          · have H3 := Lib.hid (getF_on (acc := x) (r := l.drop (k + 1)) hbig hform (by omega))
            have hb' : decide ((b : Int) < 128) = false := by simp; omega
            have hk8 : k ≤ 8 := by omega
            have hul : u < 128 ^ (k + 1) := by rw [← hu, ← hz]; exact acc_lt hk8 hxl
            have hc4 : getF k x (b :: l.drop (k + 1)) = getF (k + 1) u (l.drop (k + 1)) := by rw [H3.out, hz, hu]
            have H4 := Lib.hid (H1.out.trans hc4)
            have H5 := Lib.hid hul
            have H6 := Lib.hid hq
            clear hbig hform hyk h64 hc4 hz hu hq H3 hul
            rcases hbg with ⟨c1, c2, c3, c4⟩ | ⟨c1, c2⟩
            all_goals
              rcases hfm with ⟨d1, d2⟩ | d1
              all_goals
                go_wp2_with fail
                go_roundw
                case rel => exact ⟨k + 1, u, q, by omega, by go_num, rfl, rfl, H6.out, by omega, H5.out, H4.out, by first | trivial | rfl⟩
                case measure => simp [intOf]; omega
    · obtain rfl : k = l.length := by omega
      rw [List.drop_length, getF_nil] at hget
      clear hy hxl
      have H1 := Lib.hid hget
      clear hget
      go_wp2_with fail
      refine bodyPost_ret (v := readV (0, 0, 2)) (by simp [results, Try.results28, go_sem, readV]) rfl ⟨by rw [H1.out], (Below.refl _ w).alloc (Nat.le_refl _) _⟩
theorem rget_is {w : World} {v : Value} {l : List Nat} {n s e : Nat} (h : get l = (n, s, e)) (hx : Bs w v l) (h1 : l.length < 1000000000) :
    Calls Try.prog 28 #[v] w fun f w' => f = .returned (.agg #[.int .u64 n, .int .i64 s, .int .i64 e]) ∧ Below w.heap.size w w' := by
  have := rget_any hx h1
  rw [h] at this
  exact this
end Go.Proofs.Ytkbdahbnjklkoaa.Var
