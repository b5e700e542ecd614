/- The contract of the document's own answer for layer 4 (package tabulariumref04): Put. Nothing is claimed here. -/
import Derived.Test.YtkbdahbnjklkoaaSame
import Derived.Test.YtkbdahbnjklkoaaVarSpec
import Derived.Lib.Hide
namespace Go.Proofs.Ytkbdahbnjklkoaa.Var
open Go.RowKit Kit Byt

theorem bs_one {w : World} {x : Int} {m : Nat} (h : m < 256) (e : x = m) : Bs (w.alloc (.cells #[.int .u8 x] 5)) (.slice (some ⟨w.heap.size, 0, none⟩) 1 1) [m] := by
  subst e
  refine ⟨by simpa using h, _, 1, rfl, Nat.le_refl _, .inr ⟨w.heap.size, 0, rfl, by simp, fun i x hi => ?_⟩⟩
  rw [Nat.zero_add, cell_of (World.alloc_heap_new w _)]
  match i, hi with
  | 0, hi => simp at hi; subst hi; rfl
  | i + 1, hi => simp at hi

set_option maxRecDepth 100000 in
set_option maxHeartbeats 1000000 in
theorem rput_any {w : World} {n : Nat} (hn : n < 18446744073709551616) :
    Calls Try.prog 33 #[.int .u64 n] w fun e w' => ∃ v, e = .returned v ∧ Bs w' v (put n) ∧ Below w.heap.size w w' := by
  have hl10 := put_len hn
  have hby := put_byte n
  go_enter Try.func33, Try.ntmps33
  go_wp2_with fail
  go_loopw [0, 3] (fun x o wr => ∃ (m : Nat) (pre : List Nat), x = .int .u64 m ∧ m < 18446744073709551616 ∧ put n = pre ++ put m ∧ wr.ownsRow w.heap.size 5 1 o pre.length (bytesV pre) ∧ Below w.heap.size w wr) (fun x _ _ => (intOf x).toNat)
  case atStart => exact ⟨n, [], rfl, hn, rfl, World.ownsRow_nil _ _ _ _, Below.refl _ _⟩
  case round =>
    obtain ⟨m, pre, rfl, hm, hput, hown, hbel⟩ := hrel
    have hpl : pre.length ≤ 10 := by rw [hput] at hl10; simp at hl10; omega
    have hz := hbel.size
    have hle : ∀ b ∈ pre, b < 256 := fun b hb => hby b (by rw [hput]; exact List.mem_append_left _ hb)
    by_cases hlt : m < 128
    · have hlt' : (m : Int) < 128 := by omega
      replace hput : put n = pre ++ [m] := by rw [hput, put_lo hlt]
      have H1 := Lib.hid hput
      have H2 := Lib.hid hby
      have H3 := Lib.hid hle
      clear hm hn hl10 hput hby hle
      go_wp2_with (at_builtin; refine wp_append_bytes rfl _ _ rfl w.heap.size rfl rfl (hown.alloc _) (bs_one (m := m) ?d0 ?d1) ?c3 ?c4 ?_)
      case d0 => omega
      case d1 => rfl
      case c3 => simp; omega
      case c4 => simp; omega
      · intro v2 w2 ho2 hg2
        have b2 : Below w.heap.size w w2 := (hbel.alloc hz _).grown hg2 (by simp; omega) (fun j e => (hown.lt j e).1)
        have hb2 : Bs w2 v2 (put n) := bs_of_own H2.out (by
          rw [H1.out, List.length_append]
          rw [← bytesV_app] at ho2
          exact ho2)
        obtain ⟨va, vc, rfl, _⟩ := own_slice ho2
        go_wp2_with fail
        go_ret
        exact ⟨_, rfl, hb2, b2⟩
    · have hge : (128 : Int) ≤ m := by omega
      rw [put_hi (n := m) (by omega)] at hput
      have hm2 : m / 128 < 18446744073709551616 := by omega
      clear hm hn
      go_wp2_with (at_builtin; refine wp_append_bytes rfl _ _ rfl w.heap.size rfl rfl (hown.alloc _) (bs_one (m := m % 128 + 128) ?d0 ?d1) ?c3 ?c4 ?_)
      case d0 => omega
      case d1 => omega
      case c3 => simp; omega
      case c4 => simp; omega
      · intro v2 w2 ho2 hg2
        have b2 : Below w.heap.size w w2 := (hbel.alloc hz _).grown hg2 (by simp; omega) (fun j e => (hown.lt j e).1)
        rw [← bytesV_app] at ho2
        go_wp2_with fail
        go_roundw
        case rel => exact ⟨m / 128, pre ++ [m % 128 + 128], by go_num, hm2, by rw [hput, List.append_assoc]; rfl, by rw [List.length_append]; exact ho2, b2⟩
        case measure => simp [intOf]; omega
end Go.Proofs.Ytkbdahbnjklkoaa.Var
