/- The contracts of the document's own answers for layer 2 (package tabulariumref02): Put, guess, One, Bad, Valid. Nothing is claimed here. -/
import Derived.Test.YtjekannajnkejaaDoorUtfPure
import Derived.Test.YtjekannajnkejaaDoorKit
import Derived.Laws.IdiomStrings
import Derived.WalkSpells
import Derived.WalkLawsBesides
import Derived.TacticsInMore
import Derived.RangeFuncNested
import Derived.RangeFuncLeaves
import Derived.RangeFuncCalls
import Derived.RangeFuncBox
import Derived.RangeFuncBound
import Derived.OwnWalkIn
import Derived.LoopNIn
import Derived.LoopIn
import Derived.Deep.QuietTactic
import Derived.BigQuiet
namespace Go.Proofs.YtjekannajnkejaaDoor.Utf
open Go.RowKit Kit

theorem conv1 {w : World} {x0 : Int} (a0 : UInt8) (h0 : x0 = a0.toNat) :
    (convert 70 9 (.slice (some ⟨w.heap.size, 0, none⟩) 1 1)).run Tryd.prog (w.alloc (.cells #[.int .u8 x0] 5)) = .ok (.string ⟨#[a0]⟩) (w.alloc (.cells #[.int .u8 x0] 5)) := by
  refine run_convert_bytes_back _ _ _ _ _ _ [a0] Tryd.underlying70 Tryd.underlying5 Tryd.underlying9 ?_
  intro j hj
  have hn := World.cell?_alloc_mark w #[.int .u8 x0] 5 (0, 0) j
  rw [h0] at hn ⊢
  rw [show (⟨w.heap.size, 0, none⟩ : Addr).add j = ⟨w.heap.size, j, none⟩ by simp [Addr.add]; omega, hn]
  match j, hj with
  | 0, _ => rfl

theorem conv2 {w : World} {x0 x1 : Int} (a0 a1 : UInt8) (h0 : x0 = a0.toNat) (h1 : x1 = a1.toNat) :
    (convert 70 9 (.slice (some ⟨w.heap.size, 0, none⟩) 2 2)).run Tryd.prog (w.alloc (.cells #[.int .u8 x0, .int .u8 x1] 5)) = .ok (.string ⟨#[a0, a1]⟩) (w.alloc (.cells #[.int .u8 x0, .int .u8 x1] 5)) := by
  refine run_convert_bytes_back _ _ _ _ _ _ [a0, a1] Tryd.underlying70 Tryd.underlying5 Tryd.underlying9 ?_
  intro j hj
  have hn := World.cell?_alloc_mark w #[.int .u8 x0, .int .u8 x1] 5 (0, 0) j
  rw [h0, h1] at hn ⊢
  rw [show (⟨w.heap.size, 0, none⟩ : Addr).add j = ⟨w.heap.size, j, none⟩ by simp [Addr.add]; omega, hn]
  match j, hj with
  | 0, _ => rfl
  | 1, _ => rfl

theorem conv3 {w : World} {x0 x1 x2 : Int} (a0 a1 a2 : UInt8) (h0 : x0 = a0.toNat) (h1 : x1 = a1.toNat) (h2 : x2 = a2.toNat) :
    (convert 70 9 (.slice (some ⟨w.heap.size, 0, none⟩) 3 3)).run Tryd.prog (w.alloc (.cells #[.int .u8 x0, .int .u8 x1, .int .u8 x2] 5)) = .ok (.string ⟨#[a0, a1, a2]⟩) (w.alloc (.cells #[.int .u8 x0, .int .u8 x1, .int .u8 x2] 5)) := by
  refine run_convert_bytes_back _ _ _ _ _ _ [a0, a1, a2] Tryd.underlying70 Tryd.underlying5 Tryd.underlying9 ?_
  intro j hj
  have hn := World.cell?_alloc_mark w #[.int .u8 x0, .int .u8 x1, .int .u8 x2] 5 (0, 0) j
  rw [h0, h1, h2] at hn ⊢
  rw [show (⟨w.heap.size, 0, none⟩ : Addr).add j = ⟨w.heap.size, j, none⟩ by simp [Addr.add]; omega, hn]
  match j, hj with
  | 0, _ => rfl
  | 1, _ => rfl
  | 2, _ => rfl

theorem conv4 {w : World} {x0 x1 x2 x3 : Int} (a0 a1 a2 a3 : UInt8) (h0 : x0 = a0.toNat) (h1 : x1 = a1.toNat) (h2 : x2 = a2.toNat) (h3 : x3 = a3.toNat) :
    (convert 70 9 (.slice (some ⟨w.heap.size, 0, none⟩) 4 4)).run Tryd.prog (w.alloc (.cells #[.int .u8 x0, .int .u8 x1, .int .u8 x2, .int .u8 x3] 5)) = .ok (.string ⟨#[a0, a1, a2, a3]⟩) (w.alloc (.cells #[.int .u8 x0, .int .u8 x1, .int .u8 x2, .int .u8 x3] 5)) := by
  refine run_convert_bytes_back _ _ _ _ _ _ [a0, a1, a2, a3] Tryd.underlying70 Tryd.underlying5 Tryd.underlying9 ?_
  intro j hj
  have hn := World.cell?_alloc_mark w #[.int .u8 x0, .int .u8 x1, .int .u8 x2, .int .u8 x3] 5 (0, 0) j
  rw [h0, h1, h2, h3] at hn ⊢
  rw [show (⟨w.heap.size, 0, none⟩ : Addr).add j = ⟨w.heap.size, j, none⟩ by simp [Addr.add]; omega, hn]
  match j, hj with
  | 0, _ => rfl
  | 1, _ => rfl
  | 2, _ => rfl
  | 3, _ => rfl

set_option maxRecDepth 100000 in
theorem rput_any {w : World} {c : Int} (h1 : -9223372036854775808 ≤ c) (h2 : c ≤ 9223372036854775807) :
    Calls Tryd.prog 73 #[.int .i64 c] w fun e w' => e = .returned (.string ⟨(putL c).toArray⟩) ∧ Below w.heap.size w w' := by
  by_cases hc : 0 ≤ c ∧ c ≤ 1114111 ∧ (c < 55296 ∨ 57343 < c)
  · obtain ⟨n, rfl⟩ := Int.eq_ofNat_of_zero_le hc.1
    have hsc : Scalar n := by unfold Scalar; omega
    have e : putL (n : Int) = enc n := by unfold putL; rw [if_pos hc, Int.toNat_natCast]
    rw [e]
    obtain ⟨c1, c2, c3⟩ := hc
    have k1 : decide ((n : Int) < 0) = false := by simp
    have k2 : decide ((1114111 : Int) < n) = false := by simp; omega
    rcases enc_kinds hsc with ⟨m1, e⟩ | ⟨m1, m2, e⟩ | ⟨m1, m2, e⟩ | ⟨m1, m2, e⟩
    · have k3 : decide ((55296 : Int) ≤ n) = false := by simp; omega
      have k4 : (n : Int) < 128 := by omega
      generalize hA0 : UInt8.ofNat (n) = A0 at e
      rw [e]
      go_enter Tryd.func73, Tryd.ntmps73
      go_wp2_with fail
      rw [conv1 A0 ?_]
      · go_wp2_with fail
        go_ret
        exact ⟨rfl, (Below.refl _ w).alloc (Nat.le_refl _) _⟩
      · rw [← hA0, nbc (by omega)]
    · have k3 : decide ((55296 : Int) ≤ n) = false := by simp; omega
      have k4 : decide ((n : Int) < 128) = false := by simp; omega
      have k5 : (n : Int) < 2048 := by omega
      generalize hA0 : UInt8.ofNat (192 + n / 64) = A0 at e
      generalize hA1 : UInt8.ofNat (128 + n % 64) = A1 at e
      rw [e]
      go_enter Tryd.func73, Tryd.ntmps73
      go_wp2_with fail
      rw [conv2 A0 A1 ?_ ?_]
      · go_wp2_with fail
        go_ret
        exact ⟨rfl, (Below.refl _ w).alloc (Nat.le_refl _) _⟩
      · rw [← hA0, nbc (by omega)]; omega
      · rw [← hA1, nbc (by omega)]; omega
    · by_cases k7 : n < 55296
      · have k3 : decide ((55296 : Int) ≤ n) = false := by simp; omega
        have k4 : decide ((n : Int) < 128) = false := by simp; omega
        have k5 : decide ((n : Int) < 2048) = false := by simp; omega
        have k6 : (n : Int) < 65536 := by omega
        generalize hA0 : UInt8.ofNat (224 + n / 4096) = A0 at e
        generalize hA1 : UInt8.ofNat (128 + n / 64 % 64) = A1 at e
        generalize hA2 : UInt8.ofNat (128 + n % 64) = A2 at e
        rw [e]
        go_enter Tryd.func73, Tryd.ntmps73
        go_wp2_with fail
        rw [conv3 A0 A1 A2 ?_ ?_ ?_]
        · go_wp2_with fail
          go_ret
          exact ⟨rfl, (Below.refl _ w).alloc (Nat.le_refl _) _⟩
        · rw [← hA0, nbc (by omega)]; omega
        · rw [← hA1, nbc (by omega)]; omega
        · rw [← hA2, nbc (by omega)]; omega
      · have k3 : decide ((n : Int) ≤ 57343) = false := by simp; omega
        have k8 : (55296 : Int) ≤ n := by omega
        have k4 : decide ((n : Int) < 128) = false := by simp; omega
        have k5 : decide ((n : Int) < 2048) = false := by simp; omega
        have k6 : (n : Int) < 65536 := by omega
        generalize hA0 : UInt8.ofNat (224 + n / 4096) = A0 at e
        generalize hA1 : UInt8.ofNat (128 + n / 64 % 64) = A1 at e
        generalize hA2 : UInt8.ofNat (128 + n % 64) = A2 at e
        rw [e]
        go_enter Tryd.func73, Tryd.ntmps73
        go_wp2_with fail
        rw [conv3 A0 A1 A2 ?_ ?_ ?_]
        · go_wp2_with fail
          go_ret
          exact ⟨rfl, (Below.refl _ w).alloc (Nat.le_refl _) _⟩
        · rw [← hA0, nbc (by omega)]; omega
        · rw [← hA1, nbc (by omega)]; omega
        · rw [← hA2, nbc (by omega)]; omega
    · have k3 : decide ((n : Int) ≤ 57343) = false := by simp; omega
      have k8 : (55296 : Int) ≤ n := by omega
      have k4 : decide ((n : Int) < 128) = false := by simp; omega
      have k5 : decide ((n : Int) < 2048) = false := by simp; omega
      have k6 : decide ((n : Int) < 65536) = false := by simp; omega
      generalize hA0 : UInt8.ofNat (240 + n / 262144) = A0 at e
      generalize hA1 : UInt8.ofNat (128 + n / 4096 % 64) = A1 at e
      generalize hA2 : UInt8.ofNat (128 + n / 64 % 64) = A2 at e
      generalize hA3 : UInt8.ofNat (128 + n % 64) = A3 at e
      rw [e]
      go_enter Tryd.func73, Tryd.ntmps73
      go_wp2_with fail
      rw [conv4 A0 A1 A2 A3 ?_ ?_ ?_ ?_]
      · go_wp2_with fail
        go_ret
        exact ⟨rfl, (Below.refl _ w).alloc (Nat.le_refl _) _⟩
      · rw [← hA0, nbc (by omega)]; omega
      · rw [← hA1, nbc (by omega)]; omega
      · rw [← hA2, nbc (by omega)]; omega
      · rw [← hA3, nbc (by omega)]; omega
  · have e : putL c = [] := by unfold putL; rw [if_neg hc]
    rw [e]
    by_cases c1 : c < 0
    · go_enter Tryd.func73, Tryd.ntmps73
      go_wp2_with fail
      go_ret
      exact ⟨rfl, Below.refl _ _⟩
    by_cases c2 : 1114111 < c
    · go_enter Tryd.func73, Tryd.ntmps73
      go_wp2_with fail
      go_ret
      exact ⟨rfl, Below.refl _ _⟩
    have c3 : 55296 ≤ c := by omega
    have c4 : c ≤ 57343 := by omega
    go_enter Tryd.func73, Tryd.ntmps73
    go_wp2_with fail
    go_ret
    exact ⟨rfl, Below.refl _ _⟩
end Go.Proofs.YtjekannajnkejaaDoor.Utf
