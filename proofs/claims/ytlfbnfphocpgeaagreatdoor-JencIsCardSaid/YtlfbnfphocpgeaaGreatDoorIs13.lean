/- A part of what is_holds leans on (its texts, put together). Nothing is claimed here. -/
import Derived.Maps.OwnSet
import Derived.Test.YtlfbnfphocpgeaaGreatDoorIs12
namespace Go.Proofs.YtlfbnfphocpgeaaGreatDoor.Utf
open Go.RowKit Kit
def acc (l : List UInt8) (m : Nat) : Nat → Nat
 | 0 => 0
 | 1 => nb l 0 - m
 | i + 2 => acc l m (i + 1) * 64 + nb l (i + 1) % 64
theorem acc_lt (l : List UInt8) (m : Nat) : ∀ i, acc l m (i + 1) < 256 * 64 ^ i
 | 0 => by have := nb_lt l 0; simp [acc]; omega
 | i + 1 => by
   have := acc_lt l m i
   simp only [acc, Nat.pow_succ]
   omega
def decS (l : List UInt8) (z m a b : Nat) : Nat × Nat :=
 if z = 0 ∨ l.length < z then (0, 0)
 else if 1 < z ∧ (nb l 1 < a ∨ b < nb l 1) then (0, 0)
 else if ∃ i, i < z ∧ 1 ≤ i ∧ nb l i / 64 ≠ 2 then (0, 0)
 else (acc l m z, z)
theorem and192 : ∀ x : Nat, x < 256 → bits .and .u8 (x : Int) 192 = (((x / 64 : Nat) * 64 : Nat) : Int) := by decide +kernel
theorem and63 : ∀ x : Nat, x < 256 → bits .and .u8 (x : Int) 63 = ((x % 64 : Nat) : Int) := by decide +kernel
theorem or_low (c x : Nat) (hc : c < 1099511627776) : bits .or .i64 ((c : Int) * 64) ((x : Int) % 64) = ((c * 64 + x % 64 : Nat) : Int) := by
 have e1 : (c : Int) * 64 = ((c * 64 : Nat) : Int) := by omega
 have e2 : (x : Int) % 64 = ((x % 64 : Nat) : Int) := by omega
 rw [e1, e2]
 have h1 : (BitVec.ofInt 64 ((c * 64 : Nat) : Int)).toNat = c * 64 := by
   rw [BitVec.ofInt_natCast, BitVec.toNat_ofNat]; exact Nat.mod_eq_of_lt (by omega)
 have h2 : (BitVec.ofInt 64 ((x % 64 : Nat) : Int)).toNat = x % 64 := by
   rw [BitVec.ofInt_natCast, BitVec.toNat_ofNat]; exact Nat.mod_eq_of_lt (by omega)
 have h3 : c * 64 ||| x % 64 = c * 64 + x % 64 := by
   have := Nat.shiftLeft_add_eq_or_of_lt (b := x % 64) (i := 6) (by omega) c
   rw [Nat.shiftLeft_eq] at this
   exact this.symm
 show IntKind.i64.wrap ((BitVec.ofInt 64 ((c * 64 : Nat) : Int) ||| BitVec.ofInt 64 ((x % 64 : Nat) : Int)).toNat : Int) = _
 rw [BitVec.toNat_or, h1, h2, h3]
 simp only [IntKind.wrap, IntKind.signed, IntKind.bits]
 simp
 omega
theorem decS_cut {l : List UInt8} {z m a b k : Nat} (hz : ¬ (z = 0 ∨ l.length < z)) (h2 : ¬ (1 < z ∧ (nb l 1 < a ∨ b < nb l 1))) (h1 : 1 ≤ k) (hk : k < z) (ct : ¬ nb l k / 64 = 2) : decS l z m a b = (0, 0) := by
 unfold decS
 rw [if_neg hz, if_neg h2, if_pos ⟨k, hk, h1, ct⟩]
theorem decS_ok {l : List UInt8} {z m a b : Nat} (hz : ¬ (z = 0 ∨ l.length < z)) (h2 : ¬ (1 < z ∧ (nb l 1 < a ∨ b < nb l 1))) (h : ∀ j, 1 ≤ j → j < z → nb l j / 64 = 2) : decS l z m a b = (acc l m z, z) := by
 unfold decS
 rw [if_neg hz, if_neg h2, if_neg (fun ⟨i, i1, i2, i3⟩ => i3 (h i i2 i1))]
theorem acc_step {l : List UInt8} {m k : Nat} (hk : 1 ≤ k) (hb : acc l m k < 1099511627776) :
   Value.int .i64 (bits .or .i64 ((acc l m k : Int) * 64) ((nb l k : Int) % 64)) = .int .i64 (acc l m (k + 1)) := by
 match k, hk, hb with
 | k + 1, _, hb => rw [or_low _ _ hb]; rfl
set_option maxHeartbeats 4000000 in
theorem decode_walk {w : World} {s : ByteArray} {L M : Int} {z m a b : Nat} (hs : 0 < s.size) (hz : z ≤ 4) (hm : m ≤ nb s.data.toList 0)
   (hk : Calls Tryz.prog 196 #[.int .u8 (nb s.data.toList 0)] w fun e w' => e = .returned (.agg #[.int .u8 L, .int .u8 M, .int .i64 z, .int .u8 m, .int .u8 a, .int .u8 b]) ∧ Below w.heap.size w w') :
   Calls Tryz.prog 170 #[.string s] w fun e w' => e = .returned (.tuple #[.int .i64 (decS s.data.toList z m a b).1, .int .i64 (decS s.data.toList z m a b).2]) ∧ Below w.heap.size w w' := by
 have h0 : (0 : Int) < (s.size : Int) := by omega
 have hx0 := at_nb s 0 hs
 have hlen : s.data.toList.length = s.size := by simp
 by_cases c0 : z = 0
 · have e : decS s.data.toList z m a b = (0, 0) := by unfold decS; rw [if_pos (.inl c0)]
   rw [e]
   subst c0
   go_enter Tryz.func170, Tryz.ntmps170
   go_wp2_with fail
   refine hk.mono ?_
   rintro e w1 ⟨rfl, b1⟩
   go_wp2_with fail
   go_ret2
   exact ⟨rfl, b1.alloc b1.size _⟩
 by_cases c1 : s.size < z
 · have e : decS s.data.toList z m a b = (0, 0) := by unfold decS; rw [if_pos (.inr (by omega))]
   rw [e]
   go_enter Tryz.func170, Tryz.ntmps170
   go_wp2_with fail
   refine hk.mono ?_
   rintro e w1 ⟨rfl, b1⟩
   go_wp2_with fail
   go_ret2
   exact ⟨rfl, b1.alloc b1.size _⟩
 by_cases c2 : 1 < z ∧ (nb s.data.toList 1 < a ∨ b < nb s.data.toList 1)
 · have e : decS s.data.toList z m a b = (0, 0) := by unfold decS; rw [if_neg (by omega), if_pos c2]
   rw [e]
   obtain ⟨z1, c3⟩ := c2
   have hx1 := at_nb s 1 (by omega)
   have h1 : (1 : Int) < (s.size : Int) := by omega
   have z1' : (1 : Int) < (z : Int) := by omega
   by_cases c4 : nb s.data.toList 1 < a
   · have c4' : (nb s.data.toList 1 : Int) < (a : Int) := by omega
     clear c3
     go_enter Tryz.func170, Tryz.ntmps170
     go_wp2_with fail
     refine hk.mono ?_
     rintro e w1 ⟨rfl, b1⟩
     go_wp2_with fail
     go_quiet (fail)
     go_wp2_with fail
     go_ret2
     exact ⟨rfl, below_drewN (b1.alloc b1.size _) _⟩
   · have c5 : (b : Int) < (nb s.data.toList 1 : Int) := by omega
     have c6 : decide ((nb s.data.toList 1 : Int) < a) = false := by simp; omega
     clear c3
     go_enter Tryz.func170, Tryz.ntmps170
     go_wp2_with fail
     refine hk.mono ?_
     rintro e w1 ⟨rfl, b1⟩
     go_wp2_with fail
     go_quiet (fail)
     go_wp2_with fail
     go_ret2
     exact ⟨rfl, below_drewN (b1.alloc b1.size _) _⟩
 have key : z = 1 ∨ (1 < z ∧ a ≤ nb s.data.toList 1 ∧ nb s.data.toList 1 ≤ b) := by omega
 rcases key with c3 | ⟨z1, c3, c4⟩
 · subst c3
   have e : decS s.data.toList 1 m a b = (nb s.data.toList 0 - m, 1) := by unfold decS; rw [if_neg (by omega), if_neg (by omega), if_neg (fun ⟨i, h1, h2, _⟩ => by omega)]; rfl
   rw [e]
   go_enter Tryz.func170, Tryz.ntmps170
   go_wp2_with fail
   refine hk.mono ?_
   rintro e w1 ⟨rfl, b1⟩
   go_wp2_with fail
   go_quiet (fail)
   go_wp2_with fail
   go_quiet (fail)
   go_wp2_with fail
   go_loopw [2, 5] (fun c i wr => ∃ k : Nat, 1 ≤ k ∧ k ≤ 1 ∧ c = .int .i64 (acc s.data.toList m k) ∧ i = .int .i64 k ∧ (∀ j, 1 ≤ j → j < k → nb s.data.toList j / 64 = 2) ∧
       wr.heap[w1.heap.size]? = some (.cells #[.int .u8 L, .int .u8 M, .int .i64 1, .int .u8 m, .int .u8 a, .int .u8 b] 211 (0, 0)) ∧ Below w.heap.size w wr) (fun _ i _ => 1 - (intOf i).toNat)
   case atStart =>
     refine ⟨1, by omega, by omega, ?_, rfl, fun j h1 h2 => by omega, World.alloc_heap_new w1 _, below_drewN (below_drewN (b1.alloc b1.size _) _) _⟩
     have := nb_lt s.data.toList 0
     simp only [acc, Value.int.injEq, true_and]
     omega
   case round =>
     obtain ⟨k, hk1, hkz, rfl, rfl, hcts, hB, hbel⟩ := hrel
     obtain rfl : k = 1 := by omega
     have c2 : wr.cell? ⟨w1.heap.size, 2, none⟩ = some (.int .i64 1) := cell_of hB 2
     go_wp2_with fail
     go_quiet (fail)
     go_wp2_with fail
     go_ret2
     exact ⟨rfl, below_drewN hbel _⟩
 · have hx1 := at_nb s 1 (by omega)
   have h1 : (1 : Int) < (s.size : Int) := by omega
   have c6 : decide ((nb s.data.toList 1 : Int) < a) = false := by simp; omega
   have c7 : decide ((b : Int) < nb s.data.toList 1) = false := by simp; omega
   have z1' : (1 : Int) < (z : Int) := by omega
   go_enter Tryz.func170, Tryz.ntmps170
   go_wp2_with fail
   refine hk.mono ?_
   rintro e w1 ⟨rfl, b1⟩
   go_wp2_with fail
   go_quiet (fail)
   go_wp2_with fail
   go_quiet (fail)
   go_wp2_with fail
   go_loopw [2, 5] (fun c i wr => ∃ k : Nat, 1 ≤ k ∧ k ≤ z ∧ c = .int .i64 (acc s.data.toList m k) ∧ i = .int .i64 k ∧ (∀ j, 1 ≤ j → j < k → nb s.data.toList j / 64 = 2) ∧
       wr.heap[w1.heap.size]? = some (.cells #[.int .u8 L, .int .u8 M, .int .i64 (z : Int), .int .u8 m, .int .u8 a, .int .u8 b] 211 (0, 0)) ∧ Below w.heap.size w wr) (fun _ i _ => z - (intOf i).toNat)
   case atStart =>
     refine ⟨1, by omega, by omega, ?_, rfl, fun j h1 h2 => by omega, World.alloc_heap_new w1 _, below_drewN (below_drewN (b1.alloc b1.size _) _) _⟩
     have := nb_lt s.data.toList 0
     simp only [acc, Value.int.injEq, true_and]
     omega
   case round =>
     obtain ⟨k, hk1, hkz, rfl, rfl, hcts, hB, hbel⟩ := hrel
     have c2 : wr.cell? ⟨w1.heap.size, 2, none⟩ = some (.int .i64 (z : Int)) := cell_of hB 2
     have hx := lt_of_heap hB
     by_cases hlt : k < z
     · have hxk := at_nb s k (by omega)
       have hks : (k : Int) < (s.size : Int) := by omega
       have hlt' : (k : Int) < (z : Int) := by omega
       have e2 := and63 _ (nb_lt s.data.toList k)
       by_cases ct : nb s.data.toList k / 64 = 2
       · have e1 : bits .and .u8 (nb s.data.toList k : Int) 192 = 128 := by rw [and192 _ (nb_lt _ _), ct]; rfl
         have hb4 : acc s.data.toList m k < 1099511627776 := by
           have h3 : k - 1 + 1 = k := by omega
           have h4 := acc_lt s.data.toList m (k - 1)
           rw [h3] at h4
           have h5 : 64 ^ (k - 1) ≤ 64 ^ 3 := Nat.pow_le_pow_right (by omega) (by omega)
           omega
         go_wp2_with fail
         go_roundw
         case rel =>
           refine ⟨k + 1, by omega, by omega, ?_, by go_num, fun j j1 j2 => ?_, hB, hbel⟩
           · exact acc_step hk1 hb4
           · rcases (show j < k ∨ j = k by omega) with h | rfl
             · exact hcts j j1 h
             · exact ct
         case measure => simp [intOf]; omega
       · obtain ⟨y, e1, hy⟩ : ∃ y : Int, bits .and .u8 (nb s.data.toList k : Int) 192 = y ∧ ¬ y = 128 := ⟨_, and192 _ (nb_lt _ _), by omega⟩
         go_wp2_with fail
         go_ret2
         exact ⟨by rw [decS_cut (by omega) (by omega) hk1 hlt ct]; rfl, hbel⟩
     · have hkz' : (k : Int) = (z : Int) := by omega
       have e : decS s.data.toList z m a b = (acc s.data.toList m k, k) := by
         rw [decS_ok (by omega) (by omega) (fun j h1 h2 => hcts j h1 (by omega)), show z = k by omega]
       have hge : decide ((k : Int) < (z : Int)) = false := by simp; omega
       go_wp2_with fail
       go_quiet (fail)
       go_wp2_with fail
       go_ret2
       exact ⟨by rw [e, ← hkz']; rfl, below_drewN hbel _⟩
theorem kd_cases {x : Nat} (hx : x < 256) :
   (x < 128 ∧ kd x = 0) ∨ (128 ≤ x ∧ (x < 194 ∨ 244 < x) ∧ kd x = 9) ∨ (194 ≤ x ∧ x < 224 ∧ kd x = 1) ∨ (x = 224 ∧ kd x = 2) ∨ (225 ≤ x ∧ x < 237 ∧ kd x = 3) ∨ (x = 237 ∧ kd x = 4) ∨
   (238 ≤ x ∧ x < 240 ∧ kd x = 5) ∨ (x = 240 ∧ kd x = 6) ∨ (241 ≤ x ∧ x < 244 ∧ kd x = 7) ∨ (x = 244 ∧ kd x = 8) := by
 revert x
 decide +kernel
def RowOk (l : List UInt8) (z a b : Nat) : Prop := z ≤ l.length ∧ (1 < z → a ≤ nb l 1 ∧ nb l 1 ≤ b) ∧ ∀ j, 1 ≤ j → j < z → nb l j / 64 = 2
theorem decS_yes {l : List UInt8} {z m a b : Nat} (hz : z ≠ 0) (h : RowOk l z a b) : decS l z m a b = (acc l m z, z) := by
 obtain ⟨h1, h2, h3⟩ := h
 exact decS_ok (by omega) (by omega) h3
theorem decS_no {l : List UInt8} {z m a b : Nat} (h : ¬ RowOk l z a b) : decS l z m a b = (0, 0) := by
 unfold decS
 by_cases c1 : z = 0 ∨ l.length < z
 · rw [if_pos c1]
 by_cases c2 : 1 < z ∧ (nb l 1 < a ∨ b < nb l 1)
 · rw [if_neg c1, if_pos c2]
 by_cases c3 : ∃ i, i < z ∧ 1 ≤ i ∧ nb l i / 64 ≠ 2
 · rw [if_neg c1, if_neg c2, if_pos c3]
 · exact absurd ⟨by omega, by omega, fun j h1 h2 => by
     by_cases e : nb l j / 64 = 2
     · exact e
     · exact absurd ⟨j, h2, h1, e⟩ c3⟩ h
theorem upto2 {M : Nat → Prop} : (∀ j, 1 ≤ j → j < 2 → M j) ↔ M 1 := ⟨fun h => h 1 (by omega) (by omega), fun h j h1 h2 => by
 obtain rfl : j = 1 := by omega
 exact h⟩
theorem upto3 {M : Nat → Prop} : (∀ j, 1 ≤ j → j < 3 → M j) ↔ M 1 ∧ M 2 := ⟨fun h => ⟨h 1 (by omega) (by omega), h 2 (by omega) (by omega)⟩, fun h j h1 h2 => by
 rcases (show j = 1 ∨ j = 2 by omega) with rfl | rfl
 · exact h.1
 · exact h.2⟩
theorem upto4 {M : Nat → Prop} : (∀ j, 1 ≤ j → j < 4 → M j) ↔ M 1 ∧ M 2 ∧ M 3 := ⟨fun h => ⟨h 1 (by omega) (by omega), h 2 (by omega) (by omega), h 3 (by omega) (by omega)⟩, fun h j h1 h2 => by
 rcases (show j = 1 ∨ j = 2 ∨ j = 3 by omega) with rfl | rfl | rfl
 · exact h.1
 · exact h.2.1
 · exact h.2.2⟩
theorem dec_one (l : List UInt8) (hl : 0 < l.length) : ∃ z m a b : Nat, kval (kd (nb l 0)) = .agg #[.int .u8 (kL (kd (nb l 0))), .int .u8 (kM (kd (nb l 0))), .int .i64 z, .int .u8 m, .int .u8 a, .int .u8 b] ∧ z ≤ 4 ∧ m ≤ nb l 0 ∧ decS l z m a b = one l := by
 have b0 := nb_lt l 0
 have b1 := nb_lt l 1
 have b2 := nb_lt l 2
 have b3 := nb_lt l 3
 rcases kd_cases b0 with ⟨h, e⟩ | ⟨h, h', e⟩ | ⟨h, h', e⟩ | ⟨h, e⟩ | ⟨h, h', e⟩ | ⟨h, e⟩ | ⟨h, h', e⟩ | ⟨h, e⟩ | ⟨h, h', e⟩ | ⟨h, e⟩ <;> rw [e]
 · refine ⟨1, 0, 0, 0, rfl, by omega, by omega, ?_⟩
   rw [decS_yes (by omega) ⟨hl, by omega, by omega⟩]
   unfold one
   rw [if_pos ⟨hl, h⟩]
   rfl
 · refine ⟨0, 0, 0, 0, rfl, by omega, by omega, ?_⟩
   have : decS l 0 0 0 0 = (0, 0) := by unfold decS; rw [if_pos (.inl rfl)]
   rw [this]
   unfold one
   rw [if_neg (by omega), if_neg (by omega), if_neg (by omega), if_neg (by omega)]
 · refine ⟨2, 192, 128, 191, rfl, by omega, by omega, ?_⟩
   by_cases c : RowOk l 2 128 191
   · rw [decS_yes (by omega) c]
     unfold RowOk at c
     rw [upto2] at c
     unfold one
     rw [if_neg (by omega), if_pos (by omega)]
     simp only [acc, Prod.mk.injEq, and_true, Nat.zero_add]
     omega
   · rw [decS_no c]
     unfold RowOk at c
     rw [upto2] at c
     unfold one
     rw [if_neg (by omega), if_neg (by omega), if_neg (by omega), if_neg (by omega)]
 · refine ⟨3, 224, 160, 191, rfl, by omega, by omega, ?_⟩
   by_cases c : RowOk l 3 160 191
   · rw [decS_yes (by omega) c]
     unfold RowOk at c
     rw [upto3] at c
     unfold one
     rw [if_neg (by omega), if_neg (by omega), if_pos (by omega)]
     simp only [acc, Prod.mk.injEq, and_true, Nat.zero_add, Nat.reduceAdd]
     omega
   · rw [decS_no c]
     unfold RowOk at c
     rw [upto3] at c
     unfold one
     rw [if_neg (by omega), if_neg (by omega), if_neg (by omega), if_neg (by omega)]
 · refine ⟨3, 224, 128, 191, rfl, by omega, by omega, ?_⟩
   by_cases c : RowOk l 3 128 191
   · rw [decS_yes (by omega) c]
     unfold RowOk at c
     rw [upto3] at c
     unfold one
     rw [if_neg (by omega), if_neg (by omega), if_pos (by omega)]
     simp only [acc, Prod.mk.injEq, and_true, Nat.zero_add, Nat.reduceAdd]
     omega
   · rw [decS_no c]
     unfold RowOk at c
     rw [upto3] at c
     unfold one
     rw [if_neg (by omega), if_neg (by omega), if_neg (by omega), if_neg (by omega)]
 · refine ⟨3, 224, 128, 159, rfl, by omega, by omega, ?_⟩
   by_cases c : RowOk l 3 128 159
   · rw [decS_yes (by omega) c]
     unfold RowOk at c
     rw [upto3] at c
     unfold one
     rw [if_neg (by omega), if_neg (by omega), if_pos (by omega)]
     simp only [acc, Prod.mk.injEq, and_true, Nat.zero_add, Nat.reduceAdd]
     omega
   · rw [decS_no c]
     unfold RowOk at c
     rw [upto3] at c
     unfold one
     rw [if_neg (by omega), if_neg (by omega), if_neg (by omega), if_neg (by omega)]
 · refine ⟨3, 224, 128, 191, rfl, by omega, by omega, ?_⟩
   by_cases c : RowOk l 3 128 191
   · rw [decS_yes (by omega) c]
     unfold RowOk at c
     rw [upto3] at c
     unfold one
     rw [if_neg (by omega), if_neg (by omega), if_pos (by omega)]
     simp only [acc, Prod.mk.injEq, and_true, Nat.zero_add, Nat.reduceAdd]
     omega
   · rw [decS_no c]
     unfold RowOk at c
     rw [upto3] at c
     unfold one
     rw [if_neg (by omega), if_neg (by omega), if_neg (by omega), if_neg (by omega)]
 · refine ⟨4, 240, 144, 191, rfl, by omega, by omega, ?_⟩
   by_cases c : RowOk l 4 144 191
   · rw [decS_yes (by omega) c]
     unfold RowOk at c
     rw [upto4] at c
     unfold one
     rw [if_neg (by omega), if_neg (by omega), if_neg (by omega), if_pos (by omega)]
     simp only [acc, Prod.mk.injEq, and_true, Nat.zero_add, Nat.reduceAdd]
     omega
   · rw [decS_no c]
     unfold RowOk at c
     rw [upto4] at c
     unfold one
     rw [if_neg (by omega), if_neg (by omega), if_neg (by omega), if_neg (by omega)]
 · refine ⟨4, 240, 128, 191, rfl, by omega, by omega, ?_⟩
   by_cases c : RowOk l 4 128 191
   · rw [decS_yes (by omega) c]
     unfold RowOk at c
     rw [upto4] at c
     unfold one
     rw [if_neg (by omega), if_neg (by omega), if_neg (by omega), if_pos (by omega)]
     simp only [acc, Prod.mk.injEq, and_true, Nat.zero_add, Nat.reduceAdd]
     omega
   · rw [decS_no c]
     unfold RowOk at c
     rw [upto4] at c
     unfold one
     rw [if_neg (by omega), if_neg (by omega), if_neg (by omega), if_neg (by omega)]
 · refine ⟨4, 240, 128, 143, rfl, by omega, by omega, ?_⟩
   by_cases c : RowOk l 4 128 143
   · rw [decS_yes (by omega) c]
     unfold RowOk at c
     rw [upto4] at c
     unfold one
     rw [if_neg (by omega), if_neg (by omega), if_neg (by omega), if_pos (by omega)]
     simp only [acc, Prod.mk.injEq, and_true, Nat.zero_add, Nat.reduceAdd]
     omega
   · rw [decS_no c]
     unfold RowOk at c
     rw [upto4] at c
     unfold one
     rw [if_neg (by omega), if_neg (by omega), if_neg (by omega), if_neg (by omega)]
theorem decode_any {w : World} {s : ByteArray} (hs : 0 < s.size) (hl : Laid w) :
   Calls Tryz.prog 170 #[.string s] w fun e w' => e = .returned (.tuple #[.int .i64 (one s.data.toList).1, .int .i64 (one s.data.toList).2]) ∧ Below w.heap.size w w' := by
 obtain ⟨z, m, a, b, hk, hz, hm, he⟩ := dec_one s.data.toList (by simpa using hs)
 have h := kindOf_any (nb_lt s.data.toList 0) hl
 rw [hk] at h
 rw [← he]
 exact decode_walk hs hz hm h
end Go.Proofs.YtlfbnfphocpgeaaGreatDoor.Utf
namespace Go.Proofs.YtlfbnfphocpgeaaGreatDoor.Utf
open Go.RowKit Kit
set_option maxHeartbeats 1000000 in
theorem bad_any {w : World} {s : ByteArray} (hs : s.size < 4611686018427387904) (hl : Laid w) :
   Calls Tryz.prog 146 #[.string s] w fun e w' => e = .returned (.int .i64 (badI s.data.toList)) ∧ Below w.heap.size w w' := by
 have hlen : s.data.toList.length = s.size := by simp
 go_enter Tryz.func146, Tryz.ntmps146
 go_wp2_with fail
 go_loopw [3] (fun i wr => ∃ k : Nat, k ≤ s.size ∧ i = .int .i64 k ∧ (scan k (s.data.toList.drop k)).2 = bad s.data.toList ∧ Below w.heap.size w wr) (fun i _ => s.size - (intOf i).toNat)
 case atStart => exact ⟨0, Nat.zero_le _, rfl, rfl, Below.refl _ _⟩
 case round =>
   obtain ⟨k, hk, rfl, hsc, hbel⟩ := hrel
   have hlr := hl.below hbel hl.lt
   by_cases hlt : k < s.size
   · have hks : (k : Int) < (s.size : Int) := by omega
     have hx : 0 < (s.extract k s.size).size := by simp; omega
     have hd := decode_any hx hlr
     rw [extract_rest] at hd
     rcases scan_at (l := s.data.toList) (by omega : k < s.data.toList.length) with ⟨h0, hr⟩ | ⟨h0, h1, h2, hr⟩
     · rw [hr] at hsc
       go_wp2_with fail
       refine hd.mono ?_
       rintro e w1 ⟨rfl, b1⟩
       go_wp2_with fail
       go_ret
       exact ⟨by rw [badI, ← hsc]; rfl, hbel.trans (b1.mono hbel.size)⟩
     · rw [hr] at hsc
       go_wp2_with fail
       refine hd.mono ?_
       rintro e w1 ⟨rfl, b1⟩
       go_wp2_with fail
       go_roundw
       case rel => exact ⟨k + (one (s.data.toList.drop k)).2, by omega, by go_num, hsc, hbel.trans (b1.mono hbel.size)⟩
       case measure => simp [intOf]; omega
   · obtain rfl : k = s.size := by omega
     go_wp2_with fail
     go_ret
     have e : s.data.toList.drop s.size = [] := List.drop_eq_nil_of_le (by omega)
     rw [e, scan_nil] at hsc
     exact ⟨by rw [badI, ← hsc]; rfl, hbel⟩
theorem valid_any {w : World} {s : ByteArray} (hs : s.size < 4611686018427387904) (hl : Laid w) :
   Calls Tryz.prog 112 #[.string s] w fun e w' => e = .returned (.bool (decide (badI s.data.toList < 0))) ∧ Below w.heap.size w w' := by
 have hb := bad_any hs hl
 go_enter Tryz.func112, Tryz.ntmps112
 go_wp2_with fail
 refine hb.mono ?_
 rintro e w1 ⟨rfl, b1⟩
 go_wp2_with fail
 go_ret
 exact ⟨rfl, b1⟩
end Go.Proofs.YtlfbnfphocpgeaaGreatDoor.Utf
namespace Go.Proofs.YtlfbnfphocpgeaaGreatDoor.Utf
open Go.RowKit Kit
theorem utf8_encode {c : Nat} (hc : Scalar c) : Utf8.encode (c : Int) = ⟨(enc c).toArray⟩ := by
 have hc' := hc
 unfold Scalar at hc'
 have hv : Utf8.valid (c : Int) = true := by
   simp [Utf8.valid]; omega
 unfold Utf8.encode enc encN
 rw [hv]
 simp only [if_true, Int.toNat_natCast]
 split
 · rfl
 split
 · rfl
 split <;> rfl
theorem put_any {w : World} {c : Int} (h1 : -9223372036854775808 ≤ c) (h2 : c ≤ 9223372036854775807) :
   Calls Tryz.prog 154 #[.int .i64 c] w fun e w' => e = .returned (.tuple #[.string ⟨(putL c).toArray⟩, .bool (decide (0 ≤ c ∧ c ≤ 1114111 ∧ (c < 55296 ∨ 57343 < c)))]) ∧ w = w' := by
 by_cases hc : 0 ≤ c ∧ c ≤ 1114111 ∧ (c < 55296 ∨ 57343 < c)
 · obtain ⟨n, rfl⟩ := Int.eq_ofNat_of_zero_le hc.1
   have hsc : Scalar n := by unfold Scalar; omega
   have e : putL (n : Int) = enc n := by unfold putL; rw [if_pos hc, Int.toNat_natCast]
   rw [e, ← utf8_encode hsc, decide_eq_true hc]
   obtain ⟨c1, c2, c3⟩ := hc
   have k1 : decide ((n : Int) < 0) = false := by simp
   have k2 : decide ((1114111 : Int) < n) = false := by simp; omega
   by_cases c4 : (55296 : Int) ≤ n
   · have k3 : decide ((n : Int) ≤ 57343) = false := by simp; omega
     go_enter Tryz.func154, Tryz.ntmps154
     go_wp2_with fail
     go_ret2
     exact ⟨rfl, rfl⟩
   · have k3 : decide ((55296 : Int) ≤ n) = false := by simp; omega
     go_enter Tryz.func154, Tryz.ntmps154
     go_wp2_with fail
     go_ret2
     exact ⟨rfl, rfl⟩
 · have e : putL c = [] := by unfold putL; rw [if_neg hc]
   rw [e, decide_eq_false hc]
   by_cases c1 : c < 0
   · go_enter Tryz.func154, Tryz.ntmps154
     go_wp2_with fail
     go_ret2
     exact ⟨rfl, rfl⟩
   by_cases c2 : 1114111 < c
   · go_enter Tryz.func154, Tryz.ntmps154
     go_wp2_with fail
     go_ret2
     exact ⟨rfl, rfl⟩
   have c3 : 55296 ≤ c := by omega
   have c4 : c ≤ 57343 := by omega
   go_enter Tryz.func154, Tryz.ntmps154
   go_wp2_with fail
   go_ret2
   exact ⟨rfl, rfl⟩
end Go.Proofs.YtlfbnfphocpgeaaGreatDoor.Utf
namespace Go.Proofs.YtlfbnfphocpgeaaGreatDoor.Quo
open Utf
def AsIs (c : Nat) : Prop := 32 ≤ c ∧ c ≠ 34 ∧ c ≠ 92
instance (c : Nat) : Decidable (AsIs c) := by unfold AsIs; exact inferInstance
theorem part_plain {c : Nat} (hc : Scalar c) (h : AsIs c) (r : List UInt8) : part (enc c ++ r) = ⟨enc c, (enc c).length, 0⟩ ∧ (enc c ++ r).head? ≠ some 34 := by
 have hs := h
 unfold AsIs at hs
 by_cases h1 : c < 128
 · have e : (UInt8.ofNat c).toNat = c := nbc (by omega)
   have hb := enc_byte (x := UInt8.ofNat c) (by omega)
   rw [e] at hb
   have h92 : UInt8.ofNat c ≠ 92 := by
     intro k
     rw [k] at e
     exact hs.2.2 e.symm
   have h34 : UInt8.ofNat c ≠ 34 := by
     intro k
     rw [k] at e
     exact hs.2.1 e.symm
   have ho := one_enc hc r
   rw [hb] at ho ⊢
   refine ⟨?_, by simpa using h34⟩
   show part (UInt8.ofNat c :: r) = _
   have ho' : one (UInt8.ofNat c :: r) = (c, 1) := ho
   unfold part
   dsimp only
   rw [if_neg (by omega), if_pos h92, ho']
   dsimp only
   rw [if_neg (by omega)]
   rfl
 · refine ⟨part_hi hc (by omega) r, ?_⟩
   have hl := enc_len (c := c)
   obtain ⟨b, t, e⟩ := List.exists_cons_of_ne_nil (show enc c ≠ [] by intro e; rw [e] at hl; simp at hl)
   have hb0 := enc_hi hc (by omega) b (by rw [e]; simp)
   rw [e]
   simp
   rintro rfl
   revert hb0
   decide
theorem not_asIs_lt {c : Nat} (h : ¬ AsIs c) : c < 128 := by
 unfold AsIs at h
 omega
theorem one_hi {c : UInt8} {r : List UInt8} (h : (one (c :: r)).2 = 0) : 128 ≤ c.toNat := by
 by_cases h1 : c.toNat < 128
 · exfalso
   have := one_enc (c := c.toNat) (by unfold Scalar; omega) r
   rw [enc_byte h1] at this
   have e : one (c :: r) = (c.toNat, 1) := this
   rw [e] at h
   cases h
 · omega
theorem part_bad {l : List UInt8} (hne : l ≠ []) (h : (one l).2 = 0) : part l = err 7 ∧ l.head? ≠ some 34 := by
 obtain ⟨c, r, rfl⟩ := List.exists_cons_of_ne_nil hne
 have h1 := one_hi h
 constructor
 · unfold part
   dsimp only
   rw [if_neg (by omega), if_pos (by rintro rfl; revert h1; decide), if_pos h]
 · simp
   rintro rfl
   revert h1
   decide
theorem scan_till : ∀ (n : Nat) (l : List UInt8), l.length = n → ∀ (p k c : Nat) (pre suf : List (Nat × Nat)), (Utf.scan p l).1 = pre ++ (k, c) :: suf → (∀ x ∈ pre, AsIs x.2) → ¬ AsIs c →
   ∃ m r, k = p + m ∧ m ≤ l.length ∧ l.drop m = UInt8.ofNat c :: r ∧ ∀ s at', scanF s at' l = scanF (s ++ l.take m) (at' + m) (l.drop m) := by
 intro n
 induction n using Nat.strongRecOn with
 | ind n ih =>
   intro l hl p k c pre suf h hpre hc
   rcases scan_cases l with rfl | ⟨hne, h0⟩ | ⟨d, r, hd, rfl, ho, hr⟩
   · rw [scan_nil] at h
     simp at h
   · rw [scan_bad hne h0] at h
     simp at h
   · rw [scan_enc hd r] at h
     cases pre with
     | nil =>
       rw [List.nil_append] at h
       injection h with h1 h2
       injection h1 with h3 h4
       subst h3; subst h4
       have hb := enc_byte (x := UInt8.ofNat d) (by rw [nbc (by have := not_asIs_lt hc; omega)]; exact not_asIs_lt hc)
       rw [nbc (by have := not_asIs_lt hc; omega)] at hb
       exact ⟨0, r, rfl, Nat.zero_le _, by rw [hb]; rfl, fun s at' => by simp⟩
     | cons x pre' =>
       rw [List.cons_append] at h
       injection h with h1 h2
       have hx := hpre x (by simp)
       rw [← h1] at hx
       obtain ⟨m, r', e1, e2, e3, e4⟩ := ih r.length (by rw [List.length_append] at hl; have := (enc_len (c := d)).1; omega) r rfl (p + (enc d).length) k c pre' suf h2 (fun y hy => hpre y (by simp [hy])) hc
       have hp := part_plain hd hx r
       have hdr : (enc d ++ r).drop ((enc d).length + m) = r.drop m := by rw [List.drop_append]; simp
       refine ⟨(enc d).length + m, r', by omega, by rw [List.length_append]; omega, by rw [hdr]; exact e3, fun s at' => ?_⟩
       rw [scanF_on hp.2 (by rw [hp.1]), hp.1]
       dsimp only
       have htk : (enc d ++ r).take ((enc d).length + m) = enc d ++ r.take m := by
         rw [List.take_append, List.take_of_length_le (by omega), Nat.add_sub_cancel_left]
       rw [List.drop_left, e4, hdr, htk, List.append_assoc, Nat.add_assoc]
theorem scan_thro : ∀ (n : Nat) (l : List UInt8), l.length = n → ∀ (p : Nat), (∀ x ∈ (Utf.scan p l).1, AsIs x.2) → ∀ s at', scanF s at' l = err (if (Utf.scan p l).2 = none then 2 else 7) := by
 intro n
 induction n using Nat.strongRecOn with
 | ind n ih =>
   intro l hl p h s at'
   rcases scan_cases l with rfl | ⟨hne, h0⟩ | ⟨d, r, hd, rfl, ho, hr⟩
   · rw [scan_nil, if_pos rfl, scanF_err (by simp) (by decide)]
     rfl
   · have hp := part_bad hne h0
     rw [scan_bad hne h0, if_neg (by simp), scanF_err hp.2 (by rw [hp.1]; decide), hp.1]
     rfl
   · rw [scan_enc hd r] at h ⊢
     have hx := h (p, d) (by simp)
     have hp := part_plain hd hx r
     rw [scanF_on hp.2 (by rw [hp.1]), hp.1]
     dsimp only
     rw [List.drop_left]
     exact ih r.length (by rw [List.length_append] at hl; have := (enc_len (c := d)).1; omega) r rfl (p + (enc d).length) (fun y hy => h y (by simp [hy])) _ _
theorem all_till {l : List UInt8} {k c : Nat} {pre suf : List (Nat × Nat)} (h : all l = pre ++ (k, c) :: suf) (hpre : ∀ x ∈ pre, AsIs x.2) (hc : ¬ AsIs c) :
   k ≤ l.length ∧ (∃ r, l.drop k = UInt8.ofNat c :: r) ∧ ∀ s at', scanF s at' l = scanF (s ++ l.take k) (at' + k) (l.drop k) := by
 obtain ⟨m, r, e1, e2, e3, e4⟩ := scan_till l.length l rfl 0 k c pre suf h hpre hc
 obtain rfl : k = m := by omega
 exact ⟨e2, ⟨r, e3⟩, e4⟩
theorem all_thro {l : List UInt8} (h : ∀ x ∈ all l, AsIs x.2) (s : List UInt8) (at' : Nat) : scanF s at' l = err (if bad l = none then 2 else 7) := scan_thro l.length l rfl 0 h s at'
theorem scanF_no : ∀ (k : Nat) (l : List UInt8), l.length = k → ∀ (s : List UInt8) (at' : Nat), (scanF s at' l).e ≠ 0 → scanF s at' l = err (scanF s at' l).e := by
 intro k
 induction k using Nat.strongRecOn with
 | ind k ih =>
   intro l hl s at' h
   by_cases h1 : l.head? = some 34
   · rw [scanF_end h1] at h
     exact absurd rfl h
   · by_cases he : (part l).e = 0
     · rw [scanF_on h1 he] at h ⊢
       obtain ⟨c, k1, k2, k3, k4⟩ := part_ok he
       exact ih (l.drop (part l).size).length (by rw [List.length_drop]; omega) _ rfl _ _ h
     · rw [scanF_err h1 he]
       rfl
theorem scan_err_nil {l : List UInt8} (h : (scan l).e ≠ 0) : scan l = err (scan l).e := by
 unfold scan at h ⊢
 split at h
 · rfl
 · split at h
   · rename_i c r hc
     rw [if_pos hc]
     rfl
   · rename_i c r hc
     rw [if_neg hc]
     exact scanF_no r.length r rfl [] 1 h
end Go.Proofs.YtlfbnfphocpgeaaGreatDoor.Quo
namespace Go.Proofs.YtlfbnfphocpgeaaGreatDoor.Quo
open Utf
theorem scanF_len : ∀ (k : Nat) (l : List UInt8), l.length = k → ∀ (s : List UInt8) (at' : Nat), (scanF s at' l).s.length ≤ s.length + 4 * l.length := by
 intro k
 induction k using Nat.strongRecOn with
 | ind k ih =>
   intro l hl s at'
   by_cases h1 : l.head? = some 34
   · rw [scanF_end h1]
     dsimp only
     omega
   · by_cases he : (part l).e = 0
     · rw [scanF_on h1 he]
       obtain ⟨c, k1, k2, k3, k4⟩ := part_ok he
       have := ih (l.drop (part l).size).length (by rw [List.length_drop]; omega) _ rfl (s ++ (part l).s) (at' + (part l).size)
       have he4 := (enc_len (c := c)).2
       have e2 := congrArg List.length k2
       rw [List.length_append, List.length_drop] at this
       omega
     · rw [scanF_err h1 he]
       exact Nat.zero_le _
theorem scan_len (l : List UInt8) : (scan l).s.length ≤ 4 * l.length := by
 unfold scan
 split
 · exact Nat.zero_le _
 · split
   · exact Nat.zero_le _
   · rename_i c r _
     have := scanF_len r.length r rfl [] 1
     simp only [List.length_nil, List.length_cons] at *
     omega
end Go.Proofs.YtlfbnfphocpgeaaGreatDoor.Quo
namespace Go.Proofs.YtlfbnfphocpgeaaGreatDoor.Tre
open Go.RowKit Kit Txt Go.Maps
theorem keyedS : Keyed Tryz.prog 9 := string_keyed Tryz.underlying9
theorem key_txt {l : List UInt8} (hl : l.length < 1000000000) : keyOf Tryz.prog 9 (.string (txt l)) = some (.string l) := by
 have h := WideMaps.keyOf_string_mk (P := Tryz.prog) (k := 9) Tryz.underlying9 (s := txt l) (by rw [txt_size]; unfold maxLen; omega)
 rwa [txt_list] at h
set_option maxRecDepth 100000 in
theorem plain_bool_inv {v : Value} {b : Bool} {ps : List MemPlace} (h : plainElem (H := Unit) Tryz.prog 4 v = some (.lit (.bool b), ps)) : v = .bool b := by
 unfold plainElem at h
 rw [Tryz.underlying4] at h
 cases v <;> simp_all
def Seen (w : World) (b j : Nat) (ks : List (List UInt8)) : Prop :=
 ∃ D : DataW Unit, w.ownsMap Tryz.prog 9 (plainElem Tryz.prog 4) b j D ∧ ∀ l : List UInt8, l.length < 1000000000 → D.atKey (.string l) (.lit (.bool false)) = .lit (.bool (decide (l ∈ ks.take j)))
theorem Seen.made (w : World) (ks : List (List UInt8)) : Seen (w.alloc (.map #[] 0)) w.heap.size 0 ks := by
 refine ⟨.map [], World.ownsMap_made _ _ _ _, fun l _ => ?_⟩
 simp [DataW.atKey]
theorem Seen.look {w : World} {b j : Nat} {ks : List (List UInt8)} (h : Seen w b j ks) {l : List UInt8} (hl : l.length < 1000000000) (hz : (zeroValue 4).run Tryz.prog w = .ok (.bool false) w) : (Instr.lookup 95 (.map (some b)) (.string (txt l)) false).run Tryz.prog w = .ok (.bool (decide (l ∈ ks.take j))) w := by
 obtain ⟨D, hown, hD⟩ := h
 obtain ⟨v, ps, hrun, hv⟩ := hown.lookup keyedS Tryz.underlying95 hz (plainElem_bool Tryz.underlying4 false) (key_txt hl)
 rw [hD l hl] at hv
 rw [hrun, plain_bool_inv hv]
theorem Seen.put {w : World} {b j : Nat} {ks : List (List UInt8)} (h : Seen w b j ks) (hj : j < ks.length) (hn : ks.length ≤ 9223372036854775807) (hl : ks[j].length < 1000000000) : ∃ w', (Instr.mapUpdate 95 (.map (some b)) (.string (txt ks[j])) (.bool true)).run Tryz.prog w = .ok () w' ∧ Seen w' b (j + 1) ks ∧ w.grownBy w' (some b) := by
 obtain ⟨D, hown, hD⟩ := h
 obtain ⟨w', hrun, hown', hg⟩ := hown.update keyedS Tryz.underlying95 (by unfold maxLen; omega) (key_txt hl) (plainElem_bool Tryz.underlying4 true)
 refine ⟨w', hrun, ⟨_, hown', fun l hll => ?_⟩, hg⟩
 rw [List.take_succ_eq_append_getElem hj]
 by_cases e : l = ks[j]
 · subst e
   rw [atKey_put_same hown.isMap (keyedS.key (key_txt hl)), decide_eq_true (List.mem_append.2 (.inr (List.mem_singleton.2 rfl)))]
 · rw [atKey_put_other (fun h => e (by injection h)), hD l hll, decide_eq_decide.2 ⟨fun h => List.mem_append.2 (.inl h), fun h => (List.mem_append.1 h).resolve_right fun h => e (List.mem_singleton.1 h)⟩]
theorem Seen.grown {w w' : World} {b j : Nat} {ks : List (List UInt8)} (h : Seen w b j ks) (hg : Below w.heap.size w w') : Seen w' b j ks := by
 obtain ⟨D, ⟨es, clock, hb, rest⟩, hD⟩ := h
 exact ⟨D, ⟨es, clock, (hg.block _ (lt_of_heap hb)).trans hb, rest⟩, hD⟩
end Go.Proofs.YtlfbnfphocpgeaaGreatDoor.Tre
