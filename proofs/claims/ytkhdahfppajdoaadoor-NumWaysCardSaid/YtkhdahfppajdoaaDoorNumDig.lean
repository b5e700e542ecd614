/- The contracts of the document's own answer for layer 6 (package tabulariumref06): Digits, noughts. Nothing is claimed here. -/
import Derived.Test.YtkhdahfppajdoaaDoorNumRight
namespace Go.Proofs.YtkhdahfppajdoaaDoor.Num
open Go.RowKit Kit

set_option maxRecDepth 100000 in
set_option maxHeartbeats 1000000 in
theorem digits_any : ∀ (n : Nat), n < 1000000000000 → ∀ (w : World), Calls Tryd.prog 19 #[.int .i64 n] w fun e w' => e = .returned (.string (txt (digits n))) ∧ Below w.heap.size w w' := by
  intro n
  induction n using Nat.strongRecOn with
  | ind n ih =>
    intro hn w
    by_cases h : n < 10
    · have h' : (n : Int) < 10 := by omega
      have hd := digits_lo h
      have c0 := fun wx => one_text wx (48 + (n : Int)) (48 + n) (by omega) (by omega)
      rw [← hd] at c0
      have b0 : Below w.heap.size w (w.alloc (.cells #[.int .u8 (48 + (n : Int))] 5)) := (Below.refl _ w).alloc (Nat.le_refl _) _
      clear hd ih
      go_enter Tryd.func19, Tryd.ntmps19
      go_wp2_with fail
      go_ret
      exact ⟨rfl, b0⟩
    · have h' : decide ((n : Int) < 10) = false := by simp; omega
      obtain ⟨q, hq⟩ : ∃ q, n / 10 = q := ⟨_, rfl⟩
      obtain ⟨r, hr⟩ : ∃ r, n % 10 = r := ⟨_, rfl⟩
      have hqi : (n : Int) / 10 = (q : Int) := by omega
      have hri : (n : Int).tmod 10 = (r : Int) := by rw [Int.tmod_eq_emod_of_nonneg (by omega)]; omega
      have hr10 : r < 10 := by omega
      have hd := digits_hi (n := n) (by omega)
      rw [hq, hr] at hd
      have c0 := fun wx => one_text wx (48 + (r : Int)) (48 + r) (by omega) (by omega)
      have hq2 := ih q (by omega) (by omega)
      have c3 := one_text_drew w (48 + (r : Int)) (48 + r) (by omega) (by omega)
      have w1 : IntKind.i64.wrap (q : Int) = (q : Int) := by simp only [IntKind.wrap, IntKind.signed, IntKind.bits]; simp; omega
      have w2 : IntKind.i64.wrap (r : Int) = (r : Int) := by simp only [IntKind.wrap, IntKind.signed, IntKind.bits]; simp; omega
      have w3 : IntKind.i64.wrap (48 + (r : Int)) = 48 + (r : Int) := by simp only [IntKind.wrap, IntKind.signed, IntKind.bits]; simp; omega
      have w4 : IntKind.u8.wrap (48 + (r : Int)) = 48 + (r : Int) := by simp only [IntKind.wrap, IntKind.signed, IntKind.bits]; simp; omega
      obtain ⟨ch, hch⟩ : ∃ ch, UInt8.ofNat (48 + r) = ch := ⟨_, rfl⟩
      rw [hch] at hd c3
      simp only [hch] at c0
      have hql := digits_len q 12 (by omega) (by omega)
      have hfit := add_fit (a := digits q) (b := [ch]) (by omega) (by simp)
      have hadd := add_txt (digits q) [ch]
      rw [← hd] at hadd
      have HC := Lib.hid hch
      clear hd ih hq hr h hn hql hch
      go_enter Tryd.func19, Tryd.ntmps19
      go_upto_region 3 with fail
      go_region_with (go_at_call 19; refine (hq2 _).mono ?_; rintro e w1 ⟨rfl, k1⟩; first | (have c2 := one_text_after (g := w.heap.size) k1 (World.alloc_heap_new w _) (48 + r) (by omega) (by omega); rw [HC.out] at c2) | skip)
      all_goals
        go_wp2_with fail
        go_ret
        refine ⟨rfl, ?_⟩
        first
          | exact (((below_drewN (Below.refl w.heap.size w) 1).trans k1).alloc k1.size _)
          | exact (below_drewN ((Below.refl w.heap.size w).alloc (Nat.le_refl _) _) 1).trans (k1.mono (by simp))
          | exact (below_drewN ((Below.refl w.heap.size w).alloc (Nat.le_refl _) _) 1).trans (k1.mono (by show _ ≤ (w.alloc _).heap.size; simp))

set_option maxRecDepth 100000 in
theorem noughts_any {w : World} {k : Nat} (hk : k < 1000000) : Calls Tryd.prog 35 #[.int .i64 k] w fun e w' => e = .returned (.string (txt (noughts k))) ∧ w' = w := by
  have ht : txt [] = (⟨#[]⟩ : ByteArray) := rfl
  have h1 : (⟨#[48]⟩ : ByteArray) = txt [48] := rfl
  go_enter Tryd.func35, Tryd.ntmps35
  go_wp2_with fail
  go_loopw [3, 4] (fun s i wr => ∃ j : Nat, j ≤ k ∧ s = .string (txt (noughts j)) ∧ i = .int .i64 j ∧ wr = w) (fun _ i _ => k - (intOf i).toNat)
  case atStart => exact ⟨0, Nat.zero_le _, rfl, rfl, rfl⟩
  case round =>
    obtain ⟨j, hj, rfl, rfl, rfl⟩ := hrel
    by_cases h : j < k
    · have h' : (j : Int) < (k : Int) := by omega
      have hsz := txt_size (noughts j)
      rw [noughts_len] at hsz
      have hz1 := txt_size [48]
      have hf : ¬ (9223372036854775807 < (txt (noughts j)).size + (txt [48]).size) := add_fit (by rw [noughts_len]; omega) (by simp)
      have ha : txt (noughts j) ++ txt [48] = txt (noughts (j + 1)) := by
        rw [add_txt]
        unfold noughts
        rw [List.replicate_succ']
      rw [← h1] at hf ha
      clear hsz hz1 ht h1
      go_wp2_with fail
      go_roundw
      case rel => exact ⟨j + 1, by omega, by first | rfl | rw [ha], by go_num, by first | trivial | rfl⟩
      case measure => simp [intOf]; omega
    · obtain rfl : j = k := by omega
      go_wp2_with fail
      go_ret
      exact ⟨rfl, rfl⟩
end Go.Proofs.YtkhdahfppajdoaaDoor.Num
