/- The contract of varint.write: one number put behind what is there. Nothing is claimed here. -/
import Derived.Test.YtkbdahbnjklkoaaVarPut
import Derived.Deep.Onto
namespace Go.Proofs.Ytkbdahbnjklkoaa.Var
open Go.RowKit Kit Byt

theorem or128_any : ∀ x : Nat, x < 256 → bits .or .u8 (x : Int) 128 = ((x % 128 + 128 : Nat) : Int) := by decide +kernel

set_option maxRecDepth 100000 in
set_option maxHeartbeats 1000000 in
theorem write_any {w : World} {base : Nat} {v : Value} {l : List Nat} {n : Nat} (hn : n < 18446744073709551616) (hlen : l.length ≤ 100000000000) (hb : base ≤ w.heap.size) (hown : w.ownsRow base 5 1 v l.length (bytesV l)) :
    Calls Try.prog 38 #[v, .int .u64 n] w fun e w' => ∃ v', e = .returned v' ∧ w'.ownsRow base 5 1 v' (l ++ put n).length (bytesV (l ++ put n)) ∧ Below base w w' := by
  have hl10 := put_len hn
  go_enter Try.func38, Try.ntmps38
  go_wp2_with fail
  go_loopw [0, 1] (fun o x wr => ∃ (m : Nat) (pre : List Nat), x = .int .u64 m ∧ m < 18446744073709551616 ∧ put n = pre ++ put m ∧ wr.ownsRow base 5 1 o (l.length + pre.length) (bytesV l ++ bytesV pre) ∧ Below base w wr) (fun _ x _ => (intOf x).toNat)
  case atStart => exact ⟨n, [], rfl, hn, rfl, by simpa [bytesV] using hown, Below.refl _ _⟩
  case round =>
    obtain ⟨m, pre, rfl, hm, hput, hown, hbel⟩ := hrel
    have hpl : pre.length ≤ 10 := by rw [hput] at hl10; simp at hl10; omega
    have hz := hbel.size
    by_cases hlt : m < 128
    · have hlt' : (m : Int) < 128 := by omega
      have hge' : decide ((128 : Int) ≤ (m : Int)) = false := by simp; omega
      replace hput : put n = pre ++ [m] := by rw [hput, put_lo hlt]
      have H1 := Lib.hid hput
      clear hm hn hl10 hput
      go_wp2_with (at_builtin; refine wp_append_bytes rfl _ _ rfl base rfl rfl (hown.alloc _) (bs_one (m := m) ?d0 ?d1) ?c3 ?c4 ?_)
      case d0 => omega
      case d1 => omega
      case c3 => simp; omega
      case c4 => simp; omega
      · intro v2 w2 ho2 hg2
        have b2 : Below base w w2 := (hbel.alloc (by omega) _).grown hg2 (by simp; omega) (fun j e => (hown.lt j e).1)
        go_wp2_with fail
        go_ret
        refine ⟨_, rfl, ?_, b2⟩
        rw [H1.out]
        simpa [bytesV, Nat.add_assoc] using ho2
    · have hge : (128 : Int) ≤ m := by omega
      have hlt' : decide ((m : Int) < 128) = false := by simp; omega
      rw [put_hi (n := m) (by omega)] at hput
      have hm2 : m / 128 < 18446744073709551616 := by omega
      have hor : bits .or .u8 ((m : Int) % 256) 128 = ((m % 128 + 128 : Nat) : Int) := by
        have h1 := or128_any (m % 256) (by omega)
        have e : m % 256 % 128 = m % 128 := by omega
        rw [e] at h1
        exact h1
      clear hm hn
      go_wp2_with (at_builtin; refine wp_append_bytes rfl _ _ rfl base rfl rfl (hown.alloc _) (bs_one (m := m % 128 + 128) ?d0 ?d1) ?c3 ?c4 ?_)
      case d0 => omega
      case d1 => first | exact hor | omega
      case c3 => simp; omega
      case c4 => simp; omega
      · intro v2 w2 ho2 hg2
        have b2 : Below base w w2 := (hbel.alloc (by omega) _).grown hg2 (by simp; omega) (fun j e => (hown.lt j e).1)
        go_wp2_with fail
        go_roundw
        case rel => exact ⟨m / 128, pre ++ [m % 128 + 128], by go_num, hm2, by rw [hput, List.append_assoc]; rfl, by simpa [bytesV, Nat.add_assoc] using ho2, b2⟩
        case measure => simp [intOf]; omega
end Go.Proofs.Ytkbdahbnjklkoaa.Var
