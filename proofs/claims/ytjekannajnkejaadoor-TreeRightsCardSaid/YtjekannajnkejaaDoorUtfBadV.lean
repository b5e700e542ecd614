/- The contracts of utf.Bad and utf.Valid. Nothing is claimed here. -/
import Derived.Test.YtjekannajnkejaaDoorUtfDec
namespace Go.Proofs.YtjekannajnkejaaDoor.Utf
open Go.RowKit Kit

set_option maxHeartbeats 1000000 in
theorem bad_any {w : World} {s : ByteArray} (hs : s.size < 4611686018427387904) (hl : Laid w) :
    Calls Tryd.prog 52 #[.string s] w fun e w' => e = .returned (.int .i64 (badI s.data.toList)) ∧ Below w.heap.size w w' := by
  have hlen : s.data.toList.length = s.size := by simp
  go_enter Tryd.func52, Tryd.ntmps52
  go_wp2_with fail
  go_loopw [3] (fun i wr => ∃ k : Nat, k ≤ s.size ∧ i = .int .i64 k ∧ (scan k (s.data.toList.drop k)).2 = bad s.data.toList ∧ Below w.heap.size w wr) (fun i _ => s.size - (intOf i).toNat)
  case atStart => exact ⟨0, Nat.zero_le _, rfl, rfl, Below.refl _ _⟩
  case round =>
    obtain ⟨k, hk, rfl, hsc, hbel⟩ := hrel
    have hlr := hl.below hbel hl.lt
    by_cases hlt : k < s.size
    · have hks : (k : Int) < (s.size : Int) := by omega
      have hx : 0 < (s.extract k s.size).size := by simp; omega
      have hd := decode_any hx hlr
      rw [extract_rest] at hd
      rcases scan_at (l := s.data.toList) (by omega : k < s.data.toList.length) with ⟨h0, hr⟩ | ⟨h0, h1, h2, hr⟩
      · rw [hr] at hsc
        go_wp2_with fail
        refine hd.mono ?_
        rintro e w1 ⟨rfl, b1⟩
        go_wp2_with fail
        go_ret
        exact ⟨by rw [badI, ← hsc]; rfl, hbel.trans (b1.mono hbel.size)⟩
      · rw [hr] at hsc
        go_wp2_with fail
        refine hd.mono ?_
        rintro e w1 ⟨rfl, b1⟩
        go_wp2_with fail
        go_roundw
        case rel => exact ⟨k + (one (s.data.toList.drop k)).2, by omega, by go_num, hsc, hbel.trans (b1.mono hbel.size)⟩
        case measure => simp [intOf]; omega
    · obtain rfl : k = s.size := by omega
      go_wp2_with fail
      go_ret
      have e : s.data.toList.drop s.size = [] := List.drop_eq_nil_of_le (by omega)
      rw [e, scan_nil] at hsc
      exact ⟨by rw [badI, ← hsc]; rfl, hbel⟩

theorem valid_any {w : World} {s : ByteArray} (hs : s.size < 4611686018427387904) (hl : Laid w) :
    Calls Tryd.prog 45 #[.string s] w fun e w' => e = .returned (.bool (decide (badI s.data.toList < 0))) ∧ Below w.heap.size w w' := by
  have hb := bad_any hs hl
  go_enter Tryd.func45, Tryd.ntmps45
  go_wp2_with fail
  refine hb.mono ?_
  rintro e w1 ⟨rfl, b1⟩
  go_wp2_with fail
  go_ret
  exact ⟨rfl, b1⟩
end Go.Proofs.YtjekannajnkejaaDoor.Utf
