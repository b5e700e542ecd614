/- The contract of the document's own answer for layer 6 (package tabulariumref06): Of. Nothing is claimed here. -/
import Derived.Test.YtkhdahfppajdoaaGreatDoorNumParse
namespace Go.Proofs.YtkhdahfppajdoaaGreatDoor.Num
open Go.RowKit Kit

theorem below_setn {w W : World} {g : Nat} (h : Below w.heap.size w W) (hg : w.heap.size ≤ g) (a b c : Value) : Below w.heap.size w (((W.setCell ⟨g, 0, none⟩ a).setCell ⟨g, 1, none⟩ b).setCell ⟨g, 2, none⟩ c) :=
  ((h.setCell (p := ⟨g, 0, none⟩) hg a).setCell (p := ⟨g, 1, none⟩) hg b).setCell (p := ⟨g, 2, none⟩) hg c

/-- A whole number's digits, none of 0. -/
def digits0 (n : Nat) : List UInt8 := if n = 0 then [] else digits n
theorem digits0_step {n : Nat} (h : n ≠ 0) : digits0 n = digits0 (n / 10) ++ [UInt8.ofNat (48 + n % 10)] := by
  unfold digits0
  rw [if_neg h]
  by_cases h10 : n < 10
  · rw [if_pos (by omega), digits_lo h10, show n % 10 = n by omega]
    rfl
  · rw [if_neg (by omega), digits_hi (by omega)]
theorem digits0_len {n : Nat} (h : n < 18446744073709551616) : (digits0 n).length ≤ 20 := by
  unfold digits0
  split
  · simp
  · exact digits_len n 20 (by omega) (by omega)

set_option maxHeartbeats 4000000 in
set_option maxRecDepth 100000 in
theorem rof_any {w : World} {v : Nat} (hv : v < 18446744073709551616) :
    Calls Tryz.prog 8 #[.int .u64 v] w fun e w' => e = .returned (numV (ofN v)) ∧ Below w.heap.size w w' := by
  have ht0 : (⟨#[]⟩ : ByteArray) = txt [] := rfl
  have hA := World.alloc_heap_new w (.cells #[.bool false, .string (txt []), .int .i64 0] 23)
  have bA : Below w.heap.size w (w.alloc (.cells #[.bool false, .string (txt []), .int .i64 0] 23)) := (Below.refl _ w).alloc (Nat.le_refl _) _
  have hl20 := digits0_len hv
  go_enter Tryz.func8, Tryz.ntmps8
  go_wp2_with fail
  go_loopw [0, 3] (fun n s wr => ∃ (m : Nat) (t : List UInt8), n = .int .u64 m ∧ s = .string (txt t) ∧ m < 18446744073709551616 ∧ digits0 v = digits0 m ++ t ∧ wr.heap[w.heap.size]? = some (.cells #[.bool false, .string (txt []), .int .i64 0] 23 (0, 0)) ∧ Below w.heap.size w wr) (fun n _ _ => (intOf n).toNat)
  case atStart => exact ⟨v, [], rfl, by first | rfl | exact ht0 ▸ rfl, hv, by rw [List.append_nil], hA, bA⟩
  case round =>
    clear hA bA
    obtain ⟨m, t, rfl, rfl, hm, hd, hB, hbel⟩ := hrel
    have ht20 : t.length ≤ 20 := by rw [hd, List.length_append] at hl20; omega
    by_cases h0 : m = 0
    · subst h0
      have hs : digits0 v = t := by rw [hd]; rfl
      have hpz := rparse_any (w := wr) (l := [48]) (by simp)
      have hts := txt_size t
      clear hd
      by_cases hv0 : v = 0
      · have ht : t = [] := by rw [← hs, hv0]; rfl
        subst ht
        have ho : ofN v = (parse [48]).1 := by rw [hv0]; unfold ofN; rw [digits_zero]
        obtain ⟨pz, hpe⟩ : ∃ pz, parse [48] = pz := ⟨_, rfl⟩
        rw [hpe] at ho hpz
        obtain ⟨px, pe⟩ := pz
        have HO := Lib.hid ho
        clear ho hpe hs
        simp only [parseV, numV, List.length_nil] at *
        go_wp2_with fail
        refine hpz.mono ?_
        rintro e w1 ⟨rfl, k1⟩
        have hB1 := (k1.block _ (lt_of_heap hB)).trans hB
        have b1 := hbel.trans (k1.mono hbel.size)
        have q0 := cell_of hB1 0
        have q1 := cell_of hB1 1
        have q2 := cell_of hB1 2
        have qf := free_of hB1
        have hlt1 := lt_of_heap hB1
        go_wp2_with fail
        refine bodyPost_ret (v := numV px) (by simp [results, Tryz.results8, go_sem, numV, *]) rfl ⟨by rw [HO.out], (below_set3 b1 _ _ _).alloc (below_set3 b1 _ _ _).size _⟩
      · have ht : t = digits v := by rw [← hs]; unfold digits0; rw [if_neg hv0]
        have htl : 0 < t.length := by rw [ht]; exact List.length_pos_iff.2 (digits_ne v)
        have ho : ofN v = (parse t).1 := by rw [ht]; rfl
        have hpt := fun wx => rparse_any (w := wx) (l := t) (by omega)
        obtain ⟨pz, hpe⟩ : ∃ pz, parse [48] = pz := ⟨_, rfl⟩
        rw [hpe] at hpz
        obtain ⟨px, pe⟩ := pz
        obtain ⟨py, hye⟩ : ∃ py, parse t = py := ⟨_, rfl⟩
        rw [hye] at ho
        simp only [hye] at hpt
        obtain ⟨py, ye⟩ := py
        have HO := Lib.hid ho
        have htl' : decide (0 < t.length) = true := by simp; omega
        clear ho hpe hs ht hye
        simp only [parseV, numV] at *
        go_wp2_with fail
        refine hpz.mono ?_
        rintro e w1 ⟨rfl, k1⟩
        have hB1 := (k1.block _ (lt_of_heap hB)).trans hB
        have b1 := hbel.trans (k1.mono hbel.size)
        have b2 := b1.alloc b1.size (.cells #[.bool px.neg, .string (txt px.dig), .int .i64 px.exp] 23)
        have hB2 := new_of hB1 (.cells #[.bool px.neg, .string (txt px.dig), .int .i64 px.exp] 23)
        have hC2 := World.alloc_heap_new w1 (.cells #[.bool px.neg, .string (txt px.dig), .int .i64 px.exp] 23)
        clear k1
        go_wp2_with fail
        refine (hpt _).mono ?_
        rintro e w3 ⟨rfl, k3⟩
        have hB3 := (k3.block _ (lt_of_heap hB2)).trans hB2
        have hC3 := (k3.block _ (lt_of_heap hC2)).trans hC2
        have b3 := b2.trans (k3.mono b2.size)
        have q0 := cell_of hB3 0
        have q1 := cell_of hB3 1
        have q2 := cell_of hB3 2
        have qf := free_of hB3
        have c0 := cell_of hC3 0
        have c1 := cell_of hC3 1
        have c2 := cell_of hC3 2
        have cf := free_of hC3
        have hne : ¬ w.heap.size = w1.heap.size := by have := lt_of_heap hB1; omega
        have hne' : ¬ w1.heap.size = w.heap.size := fun e => hne e.symm
        have hle := b1.size
        clear k3
        go_wp2_with fail
        refine bodyPost_ret (v := numV py) (by simp [results, Tryz.results8, go_sem, numV, *]) rfl ⟨by rw [HO.out], below_set3 (below_setn b3 hle _ _ _) _ _ _⟩
    · have h0' : (0 : Int) < (m : Int) := by omega
      have h0'' : decide (0 < m) = true := by simp; omega
      obtain ⟨r, hr⟩ : ∃ r, m % 10 = r := ⟨_, rfl⟩
      obtain ⟨q, hq⟩ : ∃ q, m / 10 = q := ⟨_, rfl⟩
      have hri : (m : Int).tmod 10 = (r : Int) := by rw [Int.tmod_eq_emod_of_nonneg (by omega)]; omega
      have hqi : (m : Int) / 10 = (q : Int) := by omega
      have hd2 := digits0_step h0
      rw [hr, hq] at hd2
      rw [hd2, List.append_assoc] at hd
      have w1' : IntKind.u64.wrap (r : Int) = (r : Int) := by simp only [IntKind.wrap, IntKind.signed, IntKind.bits]; simp; omega
      have w2' : IntKind.u64.wrap (48 + (r : Int)) = 48 + (r : Int) := by simp only [IntKind.wrap, IntKind.signed, IntKind.bits]; simp; omega
      have w3' : IntKind.u8.wrap (48 + (r : Int)) = 48 + (r : Int) := by simp only [IntKind.wrap, IntKind.signed, IntKind.bits]; simp; omega
      have w4' : IntKind.u64.wrap (q : Int) = (q : Int) := by simp only [IntKind.wrap, IntKind.signed, IntKind.bits]; simp; omega
      have hc := one_text wr (48 + (r : Int)) (48 + r) (by omega) (by omega)
      generalize UInt8.ofNat (48 + r) = ch at *
      obtain ⟨f1, g1⟩ := add_lit (a := [ch]) (b := t) (c := [ch] ++ t) rfl rfl (by simp) (by omega)
      have hqm : q < 18446744073709551616 := by omega
      have hqm2 : q < m := by omega
      have hB2 := new_of hB (.cells #[.int .u8 (48 + (r : Int))] 5)
      have b2 := hbel.alloc hbel.size (.cells #[.int .u8 (48 + (r : Int))] 5)
      have HD := Lib.hid hd
      clear hd hd2 hr hq h0
      go_wp2_with fail
      go_roundw
      case rel => exact ⟨q, [ch] ++ t, rfl, rfl, hqm, HD.out, hB2, b2⟩
      case measure => simp [intOf]; omega
end Go.Proofs.YtkhdahfppajdoaaGreatDoor.Num
