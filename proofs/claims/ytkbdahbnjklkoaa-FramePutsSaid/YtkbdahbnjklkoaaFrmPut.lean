/- The contract of tabulariumref05.Put. Nothing is claimed here. -/
import Derived.Test.YtkbdahbnjklkoaaFrmSpec
import Derived.Test.YtkbdahbnjklkoaaVarPut
import Derived.Test.YtkbdahbnjklkoaaSlices
import Derived.IntWalk
namespace Go.Proofs.Ytkbdahbnjklkoaa.Frm
open Go.RowKit Kit Byt Var Sls

theorem wrapu {m : Nat} (h : m < 18446744073709551616) : IntKind.u64.wrap (m : Int) = (m : Int) := by
  simp only [IntKind.wrap, IntKind.signed, IntKind.bits]
  simp
  omega

set_option maxRecDepth 100000 in
set_option maxHeartbeats 4000000 in
theorem rputs_any {w : World} {v : Value} {ls : List (List Nat)} (hx : Ss w v ls) (h1 : (puts ls).length ≤ 1000000000) :
    Calls Try.prog 24 #[v] w fun f w' => ∃ v', f = .returned v' ∧ Bs w' v' (puts ls) ∧ Below w.heap.size w w' := by
  obtain ⟨a, c, rfl, hc, hx⟩ := hx
  have hlb : ls.length ≤ 1000000000 := Nat.le_trans (puts_ge ls) h1
  go_enter Try.func24, Try.ntmps24
  go_wp2_with fail
  go_loopw [3, 4] (fun o i wr => ∃ (k : Nat), k ≤ ls.length ∧ i = .int .i64 k ∧ wr.ownsRow w.heap.size 5 1 o (puts (ls.take k)).length (bytesV (puts (ls.take k))) ∧ (∀ b ∈ puts (ls.take k), b < 256) ∧ Below w.heap.size w wr) (fun _ i _ => ls.length - (intOf i).toNat)
  case atStart => exact ⟨0, Nat.zero_le _, rfl, World.ownsRow_nil _ _ _ _, by simp [puts], Below.refl _ _⟩
  case round =>
    obtain ⟨k, hk, rfl, ho, hby, hbel⟩ := hrel
    have hz := hbel.size
    by_cases hlt : k < ls.length
    · obtain ⟨g, off, rfl, hg, hcx⟩ := hx.resolve_left (fun e => by rw [e] at hlt; simp at hlt)
      obtain ⟨u, hu, hub⟩ := hcx k ls[k] (List.getElem?_eq_getElem hlt)
      have e1 := (hbel.cell (p := ⟨g, off + k, none⟩) hg).trans hu
      have hlt' : (k : Int) < (ls.length : Int) := by omega
      have hnext := puts_take hlt
      have hle := puts_le ls (k + 1)
      rw [hnext, List.length_append, List.length_append] at hle
      obtain ⟨P, hP⟩ : ∃ P, puts (ls.take k) = P := ⟨_, rfl⟩
      obtain ⟨B, hB⟩ : ∃ B, ls[k] = B := ⟨_, rfl⟩
      rw [hP] at ho hby hnext hle
      rw [hB] at hub hnext hle
      obtain ⟨hB256, ua, uc, rfl, huc, _⟩ := id hub
      have hpb := put_byte B.length
      have hpB : B.length < 18446744073709551616 := by omega
      have hwu := wrapu hpB
      have hrp := rput_any (w := wr) hpB
      have HN := Lib.hid hnext
      have HB := Lib.hid hby
      have HC := Lib.hid hB256
      have HD := Lib.hid hpb
      have hlen : P.length + (put B.length).length + B.length ≤ 1000000000 := by omega
      clear hcx hx hu hnext hle hP hB hby hB256 hpb hpB
      go_wp2_with fail
      refine hrp.mono ?_
      rintro f w2 ⟨pv, rfl, hpv, k2⟩
      have b2 := hbel.trans (k2.mono hz)
      have ho2 := own_below ho k2
      have e2 := (b2.cell (p := ⟨g, off + k, none⟩) hg).trans (((hbel.cell (p := ⟨g, off + k, none⟩) hg).symm).trans e1)
      go_wp2_with (at_builtin; refine wp_append_bytes rfl _ _ rfl w.heap.size rfl rfl ho2 hpv ?d1 ?d2 ?_)
      case d1 => omega
      case d2 => exact b2.size
      intro v3 w3 ho3 hg3
      have b3 : Below w.heap.size w w3 := b2.grown hg3 b2.size (fun j e => (ho2.lt j e).1)
      have e3 := (b3.cell (p := ⟨g, off + k, none⟩) hg).trans (((hbel.cell (p := ⟨g, off + k, none⟩) hg).symm).trans e1)
      have hub3 := hub.below b3
      go_wp2_with (at_builtin; refine wp_append_bytes rfl _ _ rfl w.heap.size rfl rfl ho3 hub3 ?d1 ?d2 ?_)
      case d1 => omega
      case d2 => exact b3.size
      intro v4 w4 ho4 hg4
      have b4 : Below w.heap.size w w4 := b3.grown hg4 b3.size (fun j e => (ho3.lt j e).1)
      go_wp2_with fail
      go_roundw
      case rel =>
        refine ⟨k + 1, by omega, by go_num, ?_, ?_, b4⟩
        · rw [HN.out, bytesV_app, bytesV_app, List.length_append, List.length_append, List.append_assoc]
          exact ho4
        · rw [HN.out]
          intro b hb
          rcases List.mem_append.1 hb with hb | hb
          · rcases List.mem_append.1 hb with hb | hb
            · exact HB.out b hb
            · exact HD.out b hb
          · exact HC.out b hb
      case measure => simp [intOf]; omega
    · obtain rfl : k = ls.length := by omega
      rw [List.take_length] at ho hby
      have hr := bs_of_own hby ho
      go_wp2_with fail
      obtain ⟨va, vc, rfl, _⟩ := own_slice ho
      go_ret
      exact ⟨_, rfl, hr, hbel⟩
end Go.Proofs.Ytkbdahbnjklkoaa.Frm
