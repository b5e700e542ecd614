/- A part of what twice_holds leans on (its texts, put together). Nothing is claimed here. -/
import Derived.Test.YtlfbnfphocpgeaaGreatDoorTw8
namespace Go.Proofs.YtlfbnfphocpgeaaGreatDoor.Utf
open Go.RowKit Kit
def acc (l : List UInt8) (m : Nat) : Nat → Nat
  | 0 => 0
  | 1 => nb l 0 - m
  | i + 2 => acc l m (i + 1) * 64 + nb l (i + 1) % 64
theorem acc_lt (l : List UInt8) (m : Nat) : ∀ i, acc l m (i + 1) < 256 * 64 ^ i
  | 0 => by have := nb_lt l 0; simp [acc]; omega
  | i + 1 => by
    have := acc_lt l m i
    simp only [acc, Nat.pow_succ]
    omega
def decS (l : List UInt8) (z m a b : Nat) : Nat × Nat :=
  if z = 0 ∨ l.length < z then (0, 0)
  else if 1 < z ∧ (nb l 1 < a ∨ b < nb l 1) then (0, 0)
  else if ∃ i, i < z ∧ 1 ≤ i ∧ nb l i / 64 ≠ 2 then (0, 0)
  else (acc l m z, z)
theorem and192 : ∀ x : Nat, x < 256 → bits .and .u8 (x : Int) 192 = (((x / 64 : Nat) * 64 : Nat) : Int) := by decide +kernel
theorem and63 : ∀ x : Nat, x < 256 → bits .and .u8 (x : Int) 63 = ((x % 64 : Nat) : Int) := by decide +kernel
theorem or_low (c x : Nat) (hc : c < 1099511627776) : bits .or .i64 ((c : Int) * 64) ((x : Int) % 64) = ((c * 64 + x % 64 : Nat) : Int) := by
  have e1 : (c : Int) * 64 = ((c * 64 : Nat) : Int) := by omega
  have e2 : (x : Int) % 64 = ((x % 64 : Nat) : Int) := by omega
  rw [e1, e2]
  have h1 : (BitVec.ofInt 64 ((c * 64 : Nat) : Int)).toNat = c * 64 := by
    rw [BitVec.ofInt_natCast, BitVec.toNat_ofNat]; exact Nat.mod_eq_of_lt (by omega)
  have h2 : (BitVec.ofInt 64 ((x % 64 : Nat) : Int)).toNat = x % 64 := by
    rw [BitVec.ofInt_natCast, BitVec.toNat_ofNat]; exact Nat.mod_eq_of_lt (by omega)
  have h3 : c * 64 ||| x % 64 = c * 64 + x % 64 := by
    have := Nat.shiftLeft_add_eq_or_of_lt (b := x % 64) (i := 6) (by omega) c
    rw [Nat.shiftLeft_eq] at this
    exact this.symm
  show IntKind.i64.wrap ((BitVec.ofInt 64 ((c * 64 : Nat) : Int) ||| BitVec.ofInt 64 ((x % 64 : Nat) : Int)).toNat : Int) = _
  rw [BitVec.toNat_or, h1, h2, h3]
  simp only [IntKind.wrap, IntKind.signed, IntKind.bits]
  simp
  omega
theorem decS_cut {l : List UInt8} {z m a b k : Nat} (hz : ¬ (z = 0 ∨ l.length < z)) (h2 : ¬ (1 < z ∧ (nb l 1 < a ∨ b < nb l 1))) (h1 : 1 ≤ k) (hk : k < z) (ct : ¬ nb l k / 64 = 2) : decS l z m a b = (0, 0) := by
  unfold decS
  rw [if_neg hz, if_neg h2, if_pos ⟨k, hk, h1, ct⟩]
theorem decS_ok {l : List UInt8} {z m a b : Nat} (hz : ¬ (z = 0 ∨ l.length < z)) (h2 : ¬ (1 < z ∧ (nb l 1 < a ∨ b < nb l 1))) (h : ∀ j, 1 ≤ j → j < z → nb l j / 64 = 2) : decS l z m a b = (acc l m z, z) := by
  unfold decS
  rw [if_neg hz, if_neg h2, if_neg (fun ⟨i, i1, i2, i3⟩ => i3 (h i i2 i1))]
theorem acc_step {l : List UInt8} {m k : Nat} (hk : 1 ≤ k) (hb : acc l m k < 1099511627776) :
    Value.int .i64 (bits .or .i64 ((acc l m k : Int) * 64) ((nb l k : Int) % 64)) = .int .i64 (acc l m (k + 1)) := by
  match k, hk, hb with
  | k + 1, _, hb => rw [or_low _ _ hb]; rfl
set_option maxHeartbeats 4000000 in
theorem decode_walk {w : World} {s : ByteArray} {L M : Int} {z m a b : Nat} (hs : 0 < s.size) (hz : z ≤ 4) (hm : m ≤ nb s.data.toList 0)
    (hk : Calls Tryz.prog 196 #[.int .u8 (nb s.data.toList 0)] w fun e w' => e = .returned (.agg #[.int .u8 L, .int .u8 M, .int .i64 z, .int .u8 m, .int .u8 a, .int .u8 b]) ∧ Below w.heap.size w w') :
    Calls Tryz.prog 170 #[.string s] w fun e w' => e = .returned (.tuple #[.int .i64 (decS s.data.toList z m a b).1, .int .i64 (decS s.data.toList z m a b).2]) ∧ Below w.heap.size w w' := by
  have h0 : (0 : Int) < (s.size : Int) := by omega
  have hx0 := at_nb s 0 hs
  have hlen : s.data.toList.length = s.size := by simp
  by_cases c0 : z = 0
  · have e : decS s.data.toList z m a b = (0, 0) := by unfold decS; rw [if_pos (.inl c0)]
    rw [e]
    subst c0
    go_enter Tryz.func170, Tryz.ntmps170
    go_wp2_with fail
    refine hk.mono ?_
    rintro e w1 ⟨rfl, b1⟩
    go_wp2_with fail
    go_ret2
    exact ⟨rfl, b1.alloc b1.size _⟩
  by_cases c1 : s.size < z
  · have e : decS s.data.toList z m a b = (0, 0) := by unfold decS; rw [if_pos (.inr (by omega))]
    rw [e]
    go_enter Tryz.func170, Tryz.ntmps170
    go_wp2_with fail
    refine hk.mono ?_
    rintro e w1 ⟨rfl, b1⟩
    go_wp2_with fail
    go_ret2
    exact ⟨rfl, b1.alloc b1.size _⟩
  by_cases c2 : 1 < z ∧ (nb s.data.toList 1 < a ∨ b < nb s.data.toList 1)
  · have e : decS s.data.toList z m a b = (0, 0) := by unfold decS; rw [if_neg (by omega), if_pos c2]
    rw [e]
    obtain ⟨z1, c3⟩ := c2
    have hx1 := at_nb s 1 (by omega)
    have h1 : (1 : Int) < (s.size : Int) := by omega
    have z1' : (1 : Int) < (z : Int) := by omega
    by_cases c4 : nb s.data.toList 1 < a
    · have c4' : (nb s.data.toList 1 : Int) < (a : Int) := by omega
      clear c3
      go_enter Tryz.func170, Tryz.ntmps170
      go_wp2_with fail
      refine hk.mono ?_
      rintro e w1 ⟨rfl, b1⟩
      go_wp2_with fail
      go_quiet (fail)
      go_wp2_with fail
      go_ret2
      exact ⟨rfl, below_drewN (b1.alloc b1.size _) _⟩
    · have c5 : (b : Int) < (nb s.data.toList 1 : Int) := by omega
      have c6 : decide ((nb s.data.toList 1 : Int) < a) = false := by simp; omega
      clear c3
      go_enter Tryz.func170, Tryz.ntmps170
      go_wp2_with fail
      refine hk.mono ?_
      rintro e w1 ⟨rfl, b1⟩
      go_wp2_with fail
      go_quiet (fail)
      go_wp2_with fail
      go_ret2
      exact ⟨rfl, below_drewN (b1.alloc b1.size _) _⟩
  have key : z = 1 ∨ (1 < z ∧ a ≤ nb s.data.toList 1 ∧ nb s.data.toList 1 ≤ b) := by omega
  rcases key with c3 | ⟨z1, c3, c4⟩
  · subst c3
    have e : decS s.data.toList 1 m a b = (nb s.data.toList 0 - m, 1) := by unfold decS; rw [if_neg (by omega), if_neg (by omega), if_neg (fun ⟨i, h1, h2, _⟩ => by omega)]; rfl
    rw [e]
    go_enter Tryz.func170, Tryz.ntmps170
    go_wp2_with fail
    refine hk.mono ?_
    rintro e w1 ⟨rfl, b1⟩
    go_wp2_with fail
    go_quiet (fail)
    go_wp2_with fail
    go_quiet (fail)
    go_wp2_with fail
    go_loopw [2, 5] (fun c i wr => ∃ k : Nat, 1 ≤ k ∧ k ≤ 1 ∧ c = .int .i64 (acc s.data.toList m k) ∧ i = .int .i64 k ∧ (∀ j, 1 ≤ j → j < k → nb s.data.toList j / 64 = 2) ∧
        wr.heap[w1.heap.size]? = some (.cells #[.int .u8 L, .int .u8 M, .int .i64 1, .int .u8 m, .int .u8 a, .int .u8 b] 211 (0, 0)) ∧ Below w.heap.size w wr) (fun _ i _ => 1 - (intOf i).toNat)
    case atStart =>
      refine ⟨1, by omega, by omega, ?_, rfl, fun j h1 h2 => by omega, World.alloc_heap_new w1 _, below_drewN (below_drewN (b1.alloc b1.size _) _) _⟩
      have := nb_lt s.data.toList 0
      simp only [acc, Value.int.injEq, true_and]
      omega
    case round =>
      obtain ⟨k, hk1, hkz, rfl, rfl, hcts, hB, hbel⟩ := hrel
      obtain rfl : k = 1 := by omega
      have c2 : wr.cell? ⟨w1.heap.size, 2, none⟩ = some (.int .i64 1) := cell_of hB 2
      go_wp2_with fail
      go_quiet (fail)
      go_wp2_with fail
      go_ret2
      exact ⟨rfl, below_drewN hbel _⟩
  · have hx1 := at_nb s 1 (by omega)
    have h1 : (1 : Int) < (s.size : Int) := by omega
    have c6 : decide ((nb s.data.toList 1 : Int) < a) = false := by simp; omega
    have c7 : decide ((b : Int) < nb s.data.toList 1) = false := by simp; omega
    have z1' : (1 : Int) < (z : Int) := by omega
    go_enter Tryz.func170, Tryz.ntmps170
    go_wp2_with fail
    refine hk.mono ?_
    rintro e w1 ⟨rfl, b1⟩
    go_wp2_with fail
    go_quiet (fail)
    go_wp2_with fail
    go_quiet (fail)
    go_wp2_with fail
    go_loopw [2, 5] (fun c i wr => ∃ k : Nat, 1 ≤ k ∧ k ≤ z ∧ c = .int .i64 (acc s.data.toList m k) ∧ i = .int .i64 k ∧ (∀ j, 1 ≤ j → j < k → nb s.data.toList j / 64 = 2) ∧
        wr.heap[w1.heap.size]? = some (.cells #[.int .u8 L, .int .u8 M, .int .i64 (z : Int), .int .u8 m, .int .u8 a, .int .u8 b] 211 (0, 0)) ∧ Below w.heap.size w wr) (fun _ i _ => z - (intOf i).toNat)
    case atStart =>
      refine ⟨1, by omega, by omega, ?_, rfl, fun j h1 h2 => by omega, World.alloc_heap_new w1 _, below_drewN (below_drewN (b1.alloc b1.size _) _) _⟩
      have := nb_lt s.data.toList 0
      simp only [acc, Value.int.injEq, true_and]
      omega
    case round =>
      obtain ⟨k, hk1, hkz, rfl, rfl, hcts, hB, hbel⟩ := hrel
      have c2 : wr.cell? ⟨w1.heap.size, 2, none⟩ = some (.int .i64 (z : Int)) := cell_of hB 2
      have hx := lt_of_heap hB
      by_cases hlt : k < z
      · have hxk := at_nb s k (by omega)
        have hks : (k : Int) < (s.size : Int) := by omega
        have hlt' : (k : Int) < (z : Int) := by omega
        have e2 := and63 _ (nb_lt s.data.toList k)
        by_cases ct : nb s.data.toList k / 64 = 2
        · have e1 : bits .and .u8 (nb s.data.toList k : Int) 192 = 128 := by rw [and192 _ (nb_lt _ _), ct]; rfl
          have hb4 : acc s.data.toList m k < 1099511627776 := by
            have h3 : k - 1 + 1 = k := by omega
            have h4 := acc_lt s.data.toList m (k - 1)
            rw [h3] at h4
            have h5 : 64 ^ (k - 1) ≤ 64 ^ 3 := Nat.pow_le_pow_right (by omega) (by omega)
            omega
          go_wp2_with fail
          go_roundw
          case rel =>
            refine ⟨k + 1, by omega, by omega, ?_, by go_num, fun j j1 j2 => ?_, hB, hbel⟩
            · exact acc_step hk1 hb4
            · rcases (show j < k ∨ j = k by omega) with h | rfl
              · exact hcts j j1 h
              · exact ct
          case measure => simp [intOf]; omega
        · obtain ⟨y, e1, hy⟩ : ∃ y : Int, bits .and .u8 (nb s.data.toList k : Int) 192 = y ∧ ¬ y = 128 := ⟨_, and192 _ (nb_lt _ _), by omega⟩
          go_wp2_with fail
          go_ret2
          exact ⟨by rw [decS_cut (by omega) (by omega) hk1 hlt ct]; rfl, hbel⟩
      · have hkz' : (k : Int) = (z : Int) := by omega
        have e : decS s.data.toList z m a b = (acc s.data.toList m k, k) := by
          rw [decS_ok (by omega) (by omega) (fun j h1 h2 => hcts j h1 (by omega)), show z = k by omega]
        have hge : decide ((k : Int) < (z : Int)) = false := by simp; omega
        go_wp2_with fail
        go_quiet (fail)
        go_wp2_with fail
        go_ret2
        exact ⟨by rw [e, ← hkz']; rfl, below_drewN hbel _⟩
theorem kd_cases {x : Nat} (hx : x < 256) :
    (x < 128 ∧ kd x = 0) ∨ (128 ≤ x ∧ (x < 194 ∨ 244 < x) ∧ kd x = 9) ∨ (194 ≤ x ∧ x < 224 ∧ kd x = 1) ∨ (x = 224 ∧ kd x = 2) ∨ (225 ≤ x ∧ x < 237 ∧ kd x = 3) ∨ (x = 237 ∧ kd x = 4) ∨
    (238 ≤ x ∧ x < 240 ∧ kd x = 5) ∨ (x = 240 ∧ kd x = 6) ∨ (241 ≤ x ∧ x < 244 ∧ kd x = 7) ∨ (x = 244 ∧ kd x = 8) := by
  revert x
  decide +kernel
def RowOk (l : List UInt8) (z a b : Nat) : Prop := z ≤ l.length ∧ (1 < z → a ≤ nb l 1 ∧ nb l 1 ≤ b) ∧ ∀ j, 1 ≤ j → j < z → nb l j / 64 = 2
theorem decS_yes {l : List UInt8} {z m a b : Nat} (hz : z ≠ 0) (h : RowOk l z a b) : decS l z m a b = (acc l m z, z) := by
  obtain ⟨h1, h2, h3⟩ := h
  exact decS_ok (by omega) (by omega) h3
theorem decS_no {l : List UInt8} {z m a b : Nat} (h : ¬ RowOk l z a b) : decS l z m a b = (0, 0) := by
  unfold decS
  by_cases c1 : z = 0 ∨ l.length < z
  · rw [if_pos c1]
  by_cases c2 : 1 < z ∧ (nb l 1 < a ∨ b < nb l 1)
  · rw [if_neg c1, if_pos c2]
  by_cases c3 : ∃ i, i < z ∧ 1 ≤ i ∧ nb l i / 64 ≠ 2
  · rw [if_neg c1, if_neg c2, if_pos c3]
  · exact absurd ⟨by omega, by omega, fun j h1 h2 => by
      by_cases e : nb l j / 64 = 2
      · exact e
      · exact absurd ⟨j, h2, h1, e⟩ c3⟩ h
theorem upto2 {M : Nat → Prop} : (∀ j, 1 ≤ j → j < 2 → M j) ↔ M 1 := ⟨fun h => h 1 (by omega) (by omega), fun h j h1 h2 => by
  obtain rfl : j = 1 := by omega
  exact h⟩
theorem upto3 {M : Nat → Prop} : (∀ j, 1 ≤ j → j < 3 → M j) ↔ M 1 ∧ M 2 := ⟨fun h => ⟨h 1 (by omega) (by omega), h 2 (by omega) (by omega)⟩, fun h j h1 h2 => by
  rcases (show j = 1 ∨ j = 2 by omega) with rfl | rfl
  · exact h.1
  · exact h.2⟩
theorem upto4 {M : Nat → Prop} : (∀ j, 1 ≤ j → j < 4 → M j) ↔ M 1 ∧ M 2 ∧ M 3 := ⟨fun h => ⟨h 1 (by omega) (by omega), h 2 (by omega) (by omega), h 3 (by omega) (by omega)⟩, fun h j h1 h2 => by
  rcases (show j = 1 ∨ j = 2 ∨ j = 3 by omega) with rfl | rfl | rfl
  · exact h.1
  · exact h.2.1
  · exact h.2.2⟩
theorem dec_one (l : List UInt8) (hl : 0 < l.length) : ∃ z m a b : Nat, kval (kd (nb l 0)) = .agg #[.int .u8 (kL (kd (nb l 0))), .int .u8 (kM (kd (nb l 0))), .int .i64 z, .int .u8 m, .int .u8 a, .int .u8 b] ∧ z ≤ 4 ∧ m ≤ nb l 0 ∧ decS l z m a b = one l := by
  have b0 := nb_lt l 0
  have b1 := nb_lt l 1
  have b2 := nb_lt l 2
  have b3 := nb_lt l 3
  rcases kd_cases b0 with ⟨h, e⟩ | ⟨h, h', e⟩ | ⟨h, h', e⟩ | ⟨h, e⟩ | ⟨h, h', e⟩ | ⟨h, e⟩ | ⟨h, h', e⟩ | ⟨h, e⟩ | ⟨h, h', e⟩ | ⟨h, e⟩ <;> rw [e]
  · refine ⟨1, 0, 0, 0, rfl, by omega, by omega, ?_⟩
    rw [decS_yes (by omega) ⟨hl, by omega, by omega⟩]
    unfold one
    rw [if_pos ⟨hl, h⟩]
    rfl
  · refine ⟨0, 0, 0, 0, rfl, by omega, by omega, ?_⟩
    have : decS l 0 0 0 0 = (0, 0) := by unfold decS; rw [if_pos (.inl rfl)]
    rw [this]
    unfold one
    rw [if_neg (by omega), if_neg (by omega), if_neg (by omega), if_neg (by omega)]
  · refine ⟨2, 192, 128, 191, rfl, by omega, by omega, ?_⟩
    by_cases c : RowOk l 2 128 191
    · rw [decS_yes (by omega) c]
      unfold RowOk at c
      rw [upto2] at c
      unfold one
      rw [if_neg (by omega), if_pos (by omega)]
      simp only [acc, Prod.mk.injEq, and_true, Nat.zero_add]
      omega
    · rw [decS_no c]
      unfold RowOk at c
      rw [upto2] at c
      unfold one
      rw [if_neg (by omega), if_neg (by omega), if_neg (by omega), if_neg (by omega)]
  · refine ⟨3, 224, 160, 191, rfl, by omega, by omega, ?_⟩
    by_cases c : RowOk l 3 160 191
    · rw [decS_yes (by omega) c]
      unfold RowOk at c
      rw [upto3] at c
      unfold one
      rw [if_neg (by omega), if_neg (by omega), if_pos (by omega)]
      simp only [acc, Prod.mk.injEq, and_true, Nat.zero_add, Nat.reduceAdd]
      omega
    · rw [decS_no c]
      unfold RowOk at c
      rw [upto3] at c
      unfold one
      rw [if_neg (by omega), if_neg (by omega), if_neg (by omega), if_neg (by omega)]
  · refine ⟨3, 224, 128, 191, rfl, by omega, by omega, ?_⟩
    by_cases c : RowOk l 3 128 191
    · rw [decS_yes (by omega) c]
      unfold RowOk at c
      rw [upto3] at c
      unfold one
      rw [if_neg (by omega), if_neg (by omega), if_pos (by omega)]
      simp only [acc, Prod.mk.injEq, and_true, Nat.zero_add, Nat.reduceAdd]
      omega
    · rw [decS_no c]
      unfold RowOk at c
      rw [upto3] at c
      unfold one
      rw [if_neg (by omega), if_neg (by omega), if_neg (by omega), if_neg (by omega)]
  · refine ⟨3, 224, 128, 159, rfl, by omega, by omega, ?_⟩
    by_cases c : RowOk l 3 128 159
    · rw [decS_yes (by omega) c]
      unfold RowOk at c
      rw [upto3] at c
      unfold one
      rw [if_neg (by omega), if_neg (by omega), if_pos (by omega)]
      simp only [acc, Prod.mk.injEq, and_true, Nat.zero_add, Nat.reduceAdd]
      omega
    · rw [decS_no c]
      unfold RowOk at c
      rw [upto3] at c
      unfold one
      rw [if_neg (by omega), if_neg (by omega), if_neg (by omega), if_neg (by omega)]
  · refine ⟨3, 224, 128, 191, rfl, by omega, by omega, ?_⟩
    by_cases c : RowOk l 3 128 191
    · rw [decS_yes (by omega) c]
      unfold RowOk at c
      rw [upto3] at c
      unfold one
      rw [if_neg (by omega), if_neg (by omega), if_pos (by omega)]
      simp only [acc, Prod.mk.injEq, and_true, Nat.zero_add, Nat.reduceAdd]
      omega
    · rw [decS_no c]
      unfold RowOk at c
      rw [upto3] at c
      unfold one
      rw [if_neg (by omega), if_neg (by omega), if_neg (by omega), if_neg (by omega)]
  · refine ⟨4, 240, 144, 191, rfl, by omega, by omega, ?_⟩
    by_cases c : RowOk l 4 144 191
    · rw [decS_yes (by omega) c]
      unfold RowOk at c
      rw [upto4] at c
      unfold one
      rw [if_neg (by omega), if_neg (by omega), if_neg (by omega), if_pos (by omega)]
      simp only [acc, Prod.mk.injEq, and_true, Nat.zero_add, Nat.reduceAdd]
      omega
    · rw [decS_no c]
      unfold RowOk at c
      rw [upto4] at c
      unfold one
      rw [if_neg (by omega), if_neg (by omega), if_neg (by omega), if_neg (by omega)]
  · refine ⟨4, 240, 128, 191, rfl, by omega, by omega, ?_⟩
    by_cases c : RowOk l 4 128 191
    · rw [decS_yes (by omega) c]
      unfold RowOk at c
      rw [upto4] at c
      unfold one
      rw [if_neg (by omega), if_neg (by omega), if_neg (by omega), if_pos (by omega)]
      simp only [acc, Prod.mk.injEq, and_true, Nat.zero_add, Nat.reduceAdd]
      omega
    · rw [decS_no c]
      unfold RowOk at c
      rw [upto4] at c
      unfold one
      rw [if_neg (by omega), if_neg (by omega), if_neg (by omega), if_neg (by omega)]
  · refine ⟨4, 240, 128, 143, rfl, by omega, by omega, ?_⟩
    by_cases c : RowOk l 4 128 143
    · rw [decS_yes (by omega) c]
      unfold RowOk at c
      rw [upto4] at c
      unfold one
      rw [if_neg (by omega), if_neg (by omega), if_neg (by omega), if_pos (by omega)]
      simp only [acc, Prod.mk.injEq, and_true, Nat.zero_add, Nat.reduceAdd]
      omega
    · rw [decS_no c]
      unfold RowOk at c
      rw [upto4] at c
      unfold one
      rw [if_neg (by omega), if_neg (by omega), if_neg (by omega), if_neg (by omega)]
theorem decode_any {w : World} {s : ByteArray} (hs : 0 < s.size) (hl : Laid w) :
    Calls Tryz.prog 170 #[.string s] w fun e w' => e = .returned (.tuple #[.int .i64 (one s.data.toList).1, .int .i64 (one s.data.toList).2]) ∧ Below w.heap.size w w' := by
  obtain ⟨z, m, a, b, hk, hz, hm, he⟩ := dec_one s.data.toList (by simpa using hs)
  have h := kindOf_any (nb_lt s.data.toList 0) hl
  rw [hk] at h
  rw [← he]
  exact decode_walk hs hz hm h
end Go.Proofs.YtlfbnfphocpgeaaGreatDoor.Utf
namespace Go.Proofs.YtlfbnfphocpgeaaGreatDoor.Utf
open Go.RowKit Kit
set_option maxHeartbeats 1000000 in
theorem bad_any {w : World} {s : ByteArray} (hs : s.size < 4611686018427387904) (hl : Laid w) :
    Calls Tryz.prog 146 #[.string s] w fun e w' => e = .returned (.int .i64 (badI s.data.toList)) ∧ Below w.heap.size w w' := by
  have hlen : s.data.toList.length = s.size := by simp
  go_enter Tryz.func146, Tryz.ntmps146
  go_wp2_with fail
  go_loopw [3] (fun i wr => ∃ k : Nat, k ≤ s.size ∧ i = .int .i64 k ∧ (scan k (s.data.toList.drop k)).2 = bad s.data.toList ∧ Below w.heap.size w wr) (fun i _ => s.size - (intOf i).toNat)
  case atStart => exact ⟨0, Nat.zero_le _, rfl, rfl, Below.refl _ _⟩
  case round =>
    obtain ⟨k, hk, rfl, hsc, hbel⟩ := hrel
    have hlr := hl.below hbel hl.lt
    by_cases hlt : k < s.size
    · have hks : (k : Int) < (s.size : Int) := by omega
      have hx : 0 < (s.extract k s.size).size := by simp; omega
      have hd := decode_any hx hlr
      rw [extract_rest] at hd
      rcases scan_at (l := s.data.toList) (by omega : k < s.data.toList.length) with ⟨h0, hr⟩ | ⟨h0, h1, h2, hr⟩
      · rw [hr] at hsc
        go_wp2_with fail
        refine hd.mono ?_
        rintro e w1 ⟨rfl, b1⟩
        go_wp2_with fail
        go_ret
        exact ⟨by rw [badI, ← hsc]; rfl, hbel.trans (b1.mono hbel.size)⟩
      · rw [hr] at hsc
        go_wp2_with fail
        refine hd.mono ?_
        rintro e w1 ⟨rfl, b1⟩
        go_wp2_with fail
        go_roundw
        case rel => exact ⟨k + (one (s.data.toList.drop k)).2, by omega, by go_num, hsc, hbel.trans (b1.mono hbel.size)⟩
        case measure => simp [intOf]; omega
    · obtain rfl : k = s.size := by omega
      go_wp2_with fail
      go_ret
      have e : s.data.toList.drop s.size = [] := List.drop_eq_nil_of_le (by omega)
      rw [e, scan_nil] at hsc
      exact ⟨by rw [badI, ← hsc]; rfl, hbel⟩
theorem valid_any {w : World} {s : ByteArray} (hs : s.size < 4611686018427387904) (hl : Laid w) :
    Calls Tryz.prog 112 #[.string s] w fun e w' => e = .returned (.bool (decide (badI s.data.toList < 0))) ∧ Below w.heap.size w w' := by
  have hb := bad_any hs hl
  go_enter Tryz.func112, Tryz.ntmps112
  go_wp2_with fail
  refine hb.mono ?_
  rintro e w1 ⟨rfl, b1⟩
  go_wp2_with fail
  go_ret
  exact ⟨rfl, b1⟩
end Go.Proofs.YtlfbnfphocpgeaaGreatDoor.Utf
namespace Go.Proofs.YtlfbnfphocpgeaaGreatDoor.Utf
open Go.RowKit Kit
theorem utf8_encode {c : Nat} (hc : Scalar c) : Utf8.encode (c : Int) = ⟨(enc c).toArray⟩ := by
  have hc' := hc
  unfold Scalar at hc'
  have hv : Utf8.valid (c : Int) = true := by
    simp [Utf8.valid]; omega
  unfold Utf8.encode enc encN
  rw [hv]
  simp only [if_true, Int.toNat_natCast]
  split
  · rfl
  split
  · rfl
  split <;> rfl
theorem put_any {w : World} {c : Int} (h1 : -9223372036854775808 ≤ c) (h2 : c ≤ 9223372036854775807) :
    Calls Tryz.prog 154 #[.int .i64 c] w fun e w' => e = .returned (.tuple #[.string ⟨(putL c).toArray⟩, .bool (decide (0 ≤ c ∧ c ≤ 1114111 ∧ (c < 55296 ∨ 57343 < c)))]) ∧ w = w' := by
  by_cases hc : 0 ≤ c ∧ c ≤ 1114111 ∧ (c < 55296 ∨ 57343 < c)
  · obtain ⟨n, rfl⟩ := Int.eq_ofNat_of_zero_le hc.1
    have hsc : Scalar n := by unfold Scalar; omega
    have e : putL (n : Int) = enc n := by unfold putL; rw [if_pos hc, Int.toNat_natCast]
    rw [e, ← utf8_encode hsc, decide_eq_true hc]
    obtain ⟨c1, c2, c3⟩ := hc
    have k1 : decide ((n : Int) < 0) = false := by simp
    have k2 : decide ((1114111 : Int) < n) = false := by simp; omega
    by_cases c4 : (55296 : Int) ≤ n
    · have k3 : decide ((n : Int) ≤ 57343) = false := by simp; omega
      go_enter Tryz.func154, Tryz.ntmps154
      go_wp2_with fail
      go_ret2
      exact ⟨rfl, rfl⟩
    · have k3 : decide ((55296 : Int) ≤ n) = false := by simp; omega
      go_enter Tryz.func154, Tryz.ntmps154
      go_wp2_with fail
      go_ret2
      exact ⟨rfl, rfl⟩
  · have e : putL c = [] := by unfold putL; rw [if_neg hc]
    rw [e, decide_eq_false hc]
    by_cases c1 : c < 0
    · go_enter Tryz.func154, Tryz.ntmps154
      go_wp2_with fail
      go_ret2
      exact ⟨rfl, rfl⟩
    by_cases c2 : 1114111 < c
    · go_enter Tryz.func154, Tryz.ntmps154
      go_wp2_with fail
      go_ret2
      exact ⟨rfl, rfl⟩
    have c3 : 55296 ≤ c := by omega
    have c4 : c ≤ 57343 := by omega
    go_enter Tryz.func154, Tryz.ntmps154
    go_wp2_with fail
    go_ret2
    exact ⟨rfl, rfl⟩
end Go.Proofs.YtlfbnfphocpgeaaGreatDoor.Utf
