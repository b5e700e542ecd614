/- The contracts of tabulariumref02.Bad, Valid: as utf's own. Nothing is claimed here. -/
import Derived.Test.YtjekannajnkejaaDoorUtfGuess
namespace Go.Proofs.YtjekannajnkejaaDoor.Utf
open Go.RowKit Kit

set_option maxHeartbeats 1000000 in
set_option maxRecDepth 100000 in
theorem rbad_any {w : World} {s : ByteArray} (hs : s.size < 4611686018427387904) :
    Calls Tryd.prog 54 #[.string s] w fun e w' => e = .returned (.int .i64 (badI s.data.toList)) ∧ Below w.heap.size w w' := by
  have hlen : s.data.toList.length = s.size := by simp
  go_enter Tryd.func54, Tryd.ntmps54
  go_wp2_with fail
  go_loopw [3] (fun i wr => ∃ k : Nat, k ≤ s.size ∧ i = .int .i64 k ∧ (scan k (s.data.toList.drop k)).2 = bad s.data.toList ∧ Below w.heap.size w wr) (fun i _ => s.size - (intOf i).toNat)
  case atStart => exact ⟨0, Nat.zero_le _, rfl, rfl, Below.refl _ _⟩
  case round =>
    obtain ⟨k, hk, rfl, hsc, hbel⟩ := hrel
    by_cases hlt : k < s.size
    · have hks : (k : Int) < (s.size : Int) := by omega
      have hd := rone_any (w := wr) hs hlt
      rcases scan_at (l := s.data.toList) (by omega : k < s.data.toList.length) with ⟨h0, hr⟩ | ⟨h0, h1, h2, hr⟩
      · rw [hr] at hsc
        go_wp2_with fail
        refine hd.mono ?_
        rintro e w1 ⟨rfl, b1⟩
        go_wp2_with fail
        go_ret
        exact ⟨by rw [badI, ← hsc]; rfl, hbel.trans (b1.mono hbel.size)⟩
      · rw [hr] at hsc
        go_wp2_with fail
        refine hd.mono ?_
        rintro e w1 ⟨rfl, b1⟩
        go_wp2_with fail
        go_roundw
        case rel => exact ⟨k + (one (s.data.toList.drop k)).2, by omega, by go_num, hsc, hbel.trans (b1.mono hbel.size)⟩
        case measure => simp [intOf]; omega
    · obtain rfl : k = s.size := by omega
      go_wp2_with fail
      go_ret
      have e : s.data.toList.drop s.size = [] := List.drop_eq_nil_of_le (by omega)
      rw [e, scan_nil] at hsc
      exact ⟨by rw [badI, ← hsc]; rfl, hbel⟩

set_option maxRecDepth 100000 in
theorem rvalid_any {w : World} {s : ByteArray} (hs : s.size < 4611686018427387904) :
    Calls Tryd.prog 48 #[.string s] w fun e w' => e = .returned (.bool (decide (badI s.data.toList < 0))) ∧ Below w.heap.size w w' := by
  have hb := rbad_any (w := w) hs
  go_enter Tryd.func48, Tryd.ntmps48
  go_wp2_with fail
  refine hb.mono ?_
  rintro e w1 ⟨rfl, b1⟩
  go_wp2_with fail
  go_ret
  exact ⟨rfl, b1⟩
end Go.Proofs.YtjekannajnkejaaDoor.Utf
