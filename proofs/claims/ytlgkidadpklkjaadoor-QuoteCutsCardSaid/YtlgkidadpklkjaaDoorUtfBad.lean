/- The contracts of utf.Bad, utf.Valid and utf.Put. Nothing is claimed here. -/
import Derived.Test.YtlgkidadpklkjaaDoorUtfDec
namespace Go.Proofs.YtlgkidadpklkjaaDoor.Utf
open Go.RowKit Kit

set_option maxHeartbeats 1000000 in
theorem bad_any {w : World} {s : ByteArray} (hs : s.size < 4611686018427387904) (hl : Laid w) :
    Calls Tryd.prog 27 #[.string s] w fun e w' => e = .returned (.int .i64 (badI s.data.toList)) ∧ Below w.heap.size w w' := by
  have hlen : s.data.toList.length = s.size := by simp
  go_enter Tryd.func27, Tryd.ntmps27
  go_wp2_with fail
  go_loopw [3] (fun i wr => ∃ k : Nat, k ≤ s.size ∧ i = .int .i64 k ∧ (scan k (s.data.toList.drop k)).2 = bad s.data.toList ∧ Below w.heap.size w wr) (fun i _ => s.size - (intOf i).toNat)
  case atStart => exact ⟨0, Nat.zero_le _, rfl, rfl, Below.refl _ _⟩
  case round =>
    obtain ⟨k, hk, rfl, hsc, hbel⟩ := hrel
    have hlr := hl.below hbel hl.lt
    by_cases hlt : k < s.size
    · have hks : (k : Int) < (s.size : Int) := by omega
      have hx : 0 < (s.extract k s.size).size := by simp; omega
      have hd := decode_any hx hlr
      rw [extract_rest] at hd
      rcases scan_at (l := s.data.toList) (by omega : k < s.data.toList.length) with ⟨h0, hr⟩ | ⟨h0, h1, h2, hr⟩
      · rw [hr] at hsc
        go_wp2_with fail
        refine hd.mono ?_
        rintro e w1 ⟨rfl, b1⟩
        go_wp2_with fail
        go_ret
        exact ⟨by rw [badI, ← hsc]; rfl, hbel.trans (b1.mono hbel.size)⟩
      · rw [hr] at hsc
        go_wp2_with fail
        refine hd.mono ?_
        rintro e w1 ⟨rfl, b1⟩
        go_wp2_with fail
        go_roundw
        case rel => exact ⟨k + (one (s.data.toList.drop k)).2, by omega, by go_num, hsc, hbel.trans (b1.mono hbel.size)⟩
        case measure => simp [intOf]; omega
    · obtain rfl : k = s.size := by omega
      go_wp2_with fail
      go_ret
      have e : s.data.toList.drop s.size = [] := List.drop_eq_nil_of_le (by omega)
      rw [e, scan_nil] at hsc
      exact ⟨by rw [badI, ← hsc]; rfl, hbel⟩

theorem valid_any {w : World} {s : ByteArray} (hs : s.size < 4611686018427387904) (hl : Laid w) :
    Calls Tryd.prog 15 #[.string s] w fun e w' => e = .returned (.bool (decide (badI s.data.toList < 0))) ∧ Below w.heap.size w w' := by
  have hb := bad_any hs hl
  go_enter Tryd.func15, Tryd.ntmps15
  go_wp2_with fail
  refine hb.mono ?_
  rintro e w1 ⟨rfl, b1⟩
  go_wp2_with fail
  go_ret
  exact ⟨rfl, b1⟩

theorem utf8_encode {c : Nat} (hc : Scalar c) : Utf8.encode (c : Int) = ⟨(enc c).toArray⟩ := by
  have hc' := hc
  unfold Scalar at hc'
  have hv : Utf8.valid (c : Int) = true := by
    simp [Utf8.valid]; omega
  unfold Utf8.encode enc encN
  rw [hv]
  simp only [if_true, Int.toNat_natCast]
  split
  · rfl
  split
  · rfl
  split <;> rfl

theorem put_any {w : World} {c : Int} (h1 : -9223372036854775808 ≤ c) (h2 : c ≤ 9223372036854775807) :
    Calls Tryd.prog 42 #[.int .i64 c] w fun e w' => e = .returned (.tuple #[.string ⟨(putL c).toArray⟩, .bool (decide (0 ≤ c ∧ c ≤ 1114111 ∧ (c < 55296 ∨ 57343 < c)))]) ∧ w = w' := by
  by_cases hc : 0 ≤ c ∧ c ≤ 1114111 ∧ (c < 55296 ∨ 57343 < c)
  · obtain ⟨n, rfl⟩ := Int.eq_ofNat_of_zero_le hc.1
    have hsc : Scalar n := by unfold Scalar; omega
    have e : putL (n : Int) = enc n := by unfold putL; rw [if_pos hc, Int.toNat_natCast]
    rw [e, ← utf8_encode hsc, decide_eq_true hc]
    obtain ⟨c1, c2, c3⟩ := hc
    have k1 : decide ((n : Int) < 0) = false := by simp
    have k2 : decide ((1114111 : Int) < n) = false := by simp; omega
    by_cases c4 : (55296 : Int) ≤ n
    · have k3 : decide ((n : Int) ≤ 57343) = false := by simp; omega
      go_enter Tryd.func42, Tryd.ntmps42
      go_wp2_with fail
      go_ret2
      exact ⟨rfl, rfl⟩
    · have k3 : decide ((55296 : Int) ≤ n) = false := by simp; omega
      go_enter Tryd.func42, Tryd.ntmps42
      go_wp2_with fail
      go_ret2
      exact ⟨rfl, rfl⟩
  · have e : putL c = [] := by unfold putL; rw [if_neg hc]
    rw [e, decide_eq_false hc]
    by_cases c1 : c < 0
    · go_enter Tryd.func42, Tryd.ntmps42
      go_wp2_with fail
      go_ret2
      exact ⟨rfl, rfl⟩
    by_cases c2 : 1114111 < c
    · go_enter Tryd.func42, Tryd.ntmps42
      go_wp2_with fail
      go_ret2
      exact ⟨rfl, rfl⟩
    have c3 : 55296 ≤ c := by omega
    have c4 : c ≤ 57343 := by omega
    go_enter Tryd.func42, Tryd.ntmps42
    go_wp2_with fail
    go_ret2
    exact ⟨rfl, rfl⟩
end Go.Proofs.YtlgkidadpklkjaaDoor.Utf
