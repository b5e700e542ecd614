/- A part of what is_holds leans on (its texts, put together). Nothing is claimed here. -/
import Derived.Laws.IdiomStrings
import Derived.TacticsInMore
import Derived.RangeFuncNested
import Derived.RangeFuncLeaves
import Derived.RangeFuncCalls
import Derived.RangeFuncBound
import Derived.OwnWalkIn
import Derived.LoopNIn
import Derived.LoopIn
import Derived.Test.YtlfbnfphocpgeaaGreatDoorIs6
namespace Go.Proofs.YtlfbnfphocpgeaaGreatDoor.Utf
open Go.RowKit Kit
theorem conv1 {w : World} {x0 : Int} (a0 : UInt8) (h0 : x0 = a0.toNat) :
   (convert 60 9 (.slice (some ⟨w.heap.size, 0, none⟩) 1 1)).run Tryz.prog (w.alloc (.cells #[.int .u8 x0] 5)) = .ok (.string ⟨#[a0]⟩) (w.alloc (.cells #[.int .u8 x0] 5)) := by
 refine run_convert_bytes_back _ _ _ _ _ _ [a0] Tryz.underlying60 Tryz.underlying5 Tryz.underlying9 ?_
 intro j hj
 have hn := World.cell?_alloc_mark w #[.int .u8 x0] 5 (0, 0) j
 rw [h0] at hn ⊢
 rw [show (⟨w.heap.size, 0, none⟩ : Addr).add j = ⟨w.heap.size, j, none⟩ by simp [Addr.add]; omega, hn]
 match j, hj with
 | 0, _ => rfl
theorem conv2 {w : World} {x0 x1 : Int} (a0 a1 : UInt8) (h0 : x0 = a0.toNat) (h1 : x1 = a1.toNat) :
   (convert 60 9 (.slice (some ⟨w.heap.size, 0, none⟩) 2 2)).run Tryz.prog (w.alloc (.cells #[.int .u8 x0, .int .u8 x1] 5)) = .ok (.string ⟨#[a0, a1]⟩) (w.alloc (.cells #[.int .u8 x0, .int .u8 x1] 5)) := by
 refine run_convert_bytes_back _ _ _ _ _ _ [a0, a1] Tryz.underlying60 Tryz.underlying5 Tryz.underlying9 ?_
 intro j hj
 have hn := World.cell?_alloc_mark w #[.int .u8 x0, .int .u8 x1] 5 (0, 0) j
 rw [h0, h1] at hn ⊢
 rw [show (⟨w.heap.size, 0, none⟩ : Addr).add j = ⟨w.heap.size, j, none⟩ by simp [Addr.add]; omega, hn]
 match j, hj with
 | 0, _ => rfl
 | 1, _ => rfl
theorem conv3 {w : World} {x0 x1 x2 : Int} (a0 a1 a2 : UInt8) (h0 : x0 = a0.toNat) (h1 : x1 = a1.toNat) (h2 : x2 = a2.toNat) :
   (convert 60 9 (.slice (some ⟨w.heap.size, 0, none⟩) 3 3)).run Tryz.prog (w.alloc (.cells #[.int .u8 x0, .int .u8 x1, .int .u8 x2] 5)) = .ok (.string ⟨#[a0, a1, a2]⟩) (w.alloc (.cells #[.int .u8 x0, .int .u8 x1, .int .u8 x2] 5)) := by
 refine run_convert_bytes_back _ _ _ _ _ _ [a0, a1, a2] Tryz.underlying60 Tryz.underlying5 Tryz.underlying9 ?_
 intro j hj
 have hn := World.cell?_alloc_mark w #[.int .u8 x0, .int .u8 x1, .int .u8 x2] 5 (0, 0) j
 rw [h0, h1, h2] at hn ⊢
 rw [show (⟨w.heap.size, 0, none⟩ : Addr).add j = ⟨w.heap.size, j, none⟩ by simp [Addr.add]; omega, hn]
 match j, hj with
 | 0, _ => rfl
 | 1, _ => rfl
 | 2, _ => rfl
theorem conv4 {w : World} {x0 x1 x2 x3 : Int} (a0 a1 a2 a3 : UInt8) (h0 : x0 = a0.toNat) (h1 : x1 = a1.toNat) (h2 : x2 = a2.toNat) (h3 : x3 = a3.toNat) :
   (convert 60 9 (.slice (some ⟨w.heap.size, 0, none⟩) 4 4)).run Tryz.prog (w.alloc (.cells #[.int .u8 x0, .int .u8 x1, .int .u8 x2, .int .u8 x3] 5)) = .ok (.string ⟨#[a0, a1, a2, a3]⟩) (w.alloc (.cells #[.int .u8 x0, .int .u8 x1, .int .u8 x2, .int .u8 x3] 5)) := by
 refine run_convert_bytes_back _ _ _ _ _ _ [a0, a1, a2, a3] Tryz.underlying60 Tryz.underlying5 Tryz.underlying9 ?_
 intro j hj
 have hn := World.cell?_alloc_mark w #[.int .u8 x0, .int .u8 x1, .int .u8 x2, .int .u8 x3] 5 (0, 0) j
 rw [h0, h1, h2, h3] at hn ⊢
 rw [show (⟨w.heap.size, 0, none⟩ : Addr).add j = ⟨w.heap.size, j, none⟩ by simp [Addr.add]; omega, hn]
 match j, hj with
 | 0, _ => rfl
 | 1, _ => rfl
 | 2, _ => rfl
 | 3, _ => rfl
set_option maxRecDepth 100000 in
theorem rput_any {w : World} {c : Int} (h1 : -9223372036854775808 ≤ c) (h2 : c ≤ 9223372036854775807) :
   Calls Tryz.prog 121 #[.int .i64 c] w fun e w' => e = .returned (.string ⟨(putL c).toArray⟩) ∧ Below w.heap.size w w' := by
 by_cases hc : 0 ≤ c ∧ c ≤ 1114111 ∧ (c < 55296 ∨ 57343 < c)
 · obtain ⟨n, rfl⟩ := Int.eq_ofNat_of_zero_le hc.1
   have hsc : Scalar n := by unfold Scalar; omega
   have e : putL (n : Int) = enc n := by unfold putL; rw [if_pos hc, Int.toNat_natCast]
   rw [e]
   obtain ⟨c1, c2, c3⟩ := hc
   have k1 : decide ((n : Int) < 0) = false := by simp
   have k2 : decide ((1114111 : Int) < n) = false := by simp; omega
   rcases enc_kinds hsc with ⟨m1, e⟩ | ⟨m1, m2, e⟩ | ⟨m1, m2, e⟩ | ⟨m1, m2, e⟩
   · have k3 : decide ((55296 : Int) ≤ n) = false := by simp; omega
     have k4 : (n : Int) < 128 := by omega
     generalize hA0 : UInt8.ofNat (n) = A0 at e
     rw [e]
     go_enter Tryz.func121, Tryz.ntmps121
     go_wp2_with fail
     rw [conv1 A0 ?_]
     · go_wp2_with fail
       go_ret
       exact ⟨rfl, (Below.refl _ w).alloc (Nat.le_refl _) _⟩
     · rw [← hA0, nbc (by omega)]
   · have k3 : decide ((55296 : Int) ≤ n) = false := by simp; omega
     have k4 : decide ((n : Int) < 128) = false := by simp; omega
     have k5 : (n : Int) < 2048 := by omega
     generalize hA0 : UInt8.ofNat (192 + n / 64) = A0 at e
     generalize hA1 : UInt8.ofNat (128 + n % 64) = A1 at e
     rw [e]
     go_enter Tryz.func121, Tryz.ntmps121
     go_wp2_with fail
     rw [conv2 A0 A1 ?_ ?_]
     · go_wp2_with fail
       go_ret
       exact ⟨rfl, (Below.refl _ w).alloc (Nat.le_refl _) _⟩
     · rw [← hA0, nbc (by omega)]; omega
     · rw [← hA1, nbc (by omega)]; omega
   · by_cases k7 : n < 55296
     · have k3 : decide ((55296 : Int) ≤ n) = false := by simp; omega
       have k4 : decide ((n : Int) < 128) = false := by simp; omega
       have k5 : decide ((n : Int) < 2048) = false := by simp; omega
       have k6 : (n : Int) < 65536 := by omega
       generalize hA0 : UInt8.ofNat (224 + n / 4096) = A0 at e
       generalize hA1 : UInt8.ofNat (128 + n / 64 % 64) = A1 at e
       generalize hA2 : UInt8.ofNat (128 + n % 64) = A2 at e
       rw [e]
       go_enter Tryz.func121, Tryz.ntmps121
       go_wp2_with fail
       rw [conv3 A0 A1 A2 ?_ ?_ ?_]
       · go_wp2_with fail
         go_ret
         exact ⟨rfl, (Below.refl _ w).alloc (Nat.le_refl _) _⟩
       · rw [← hA0, nbc (by omega)]; omega
       · rw [← hA1, nbc (by omega)]; omega
       · rw [← hA2, nbc (by omega)]; omega
     · have k3 : decide ((n : Int) ≤ 57343) = false := by simp; omega
       have k8 : (55296 : Int) ≤ n := by omega
       have k4 : decide ((n : Int) < 128) = false := by simp; omega
       have k5 : decide ((n : Int) < 2048) = false := by simp; omega
       have k6 : (n : Int) < 65536 := by omega
       generalize hA0 : UInt8.ofNat (224 + n / 4096) = A0 at e
       generalize hA1 : UInt8.ofNat (128 + n / 64 % 64) = A1 at e
       generalize hA2 : UInt8.ofNat (128 + n % 64) = A2 at e
       rw [e]
       go_enter Tryz.func121, Tryz.ntmps121
       go_wp2_with fail
       rw [conv3 A0 A1 A2 ?_ ?_ ?_]
       · go_wp2_with fail
         go_ret
         exact ⟨rfl, (Below.refl _ w).alloc (Nat.le_refl _) _⟩
       · rw [← hA0, nbc (by omega)]; omega
       · rw [← hA1, nbc (by omega)]; omega
       · rw [← hA2, nbc (by omega)]; omega
   · have k3 : decide ((n : Int) ≤ 57343) = false := by simp; omega
     have k8 : (55296 : Int) ≤ n := by omega
     have k4 : decide ((n : Int) < 128) = false := by simp; omega
     have k5 : decide ((n : Int) < 2048) = false := by simp; omega
     have k6 : decide ((n : Int) < 65536) = false := by simp; omega
     generalize hA0 : UInt8.ofNat (240 + n / 262144) = A0 at e
     generalize hA1 : UInt8.ofNat (128 + n / 4096 % 64) = A1 at e
     generalize hA2 : UInt8.ofNat (128 + n / 64 % 64) = A2 at e
     generalize hA3 : UInt8.ofNat (128 + n % 64) = A3 at e
     rw [e]
     go_enter Tryz.func121, Tryz.ntmps121
     go_wp2_with fail
     rw [conv4 A0 A1 A2 A3 ?_ ?_ ?_ ?_]
     · go_wp2_with fail
       go_ret
       exact ⟨rfl, (Below.refl _ w).alloc (Nat.le_refl _) _⟩
     · rw [← hA0, nbc (by omega)]; omega
     · rw [← hA1, nbc (by omega)]; omega
     · rw [← hA2, nbc (by omega)]; omega
     · rw [← hA3, nbc (by omega)]; omega
 · have e : putL c = [] := by unfold putL; rw [if_neg hc]
   rw [e]
   by_cases c1 : c < 0
   · go_enter Tryz.func121, Tryz.ntmps121
     go_wp2_with fail
     go_ret
     exact ⟨rfl, Below.refl _ _⟩
   by_cases c2 : 1114111 < c
   · go_enter Tryz.func121, Tryz.ntmps121
     go_wp2_with fail
     go_ret
     exact ⟨rfl, Below.refl _ _⟩
   have c3 : 55296 ≤ c := by omega
   have c4 : c ≤ 57343 := by omega
   go_enter Tryz.func121, Tryz.ntmps121
   go_wp2_with fail
   go_ret
   exact ⟨rfl, Below.refl _ _⟩
end Go.Proofs.YtlfbnfphocpgeaaGreatDoor.Utf
namespace Go.Proofs.YtlfbnfphocpgeaaGreatDoor.Utf
open Go.RowKit Kit
def gacc (l : List UInt8) (ld : Int) : Nat → Int
 | 0 => 0
 | 1 => nb l 0 - ld
 | i + 2 => gacc l ld (i + 1) * 64 + nb l (i + 1) - 128
theorem gacc_lt (l : List UInt8) {ld : Int} (h0 : 0 ≤ ld) (h1 : ld ≤ 255) : ∀ i, -(300 * 64 ^ i : Nat) + 4 < gacc l ld (i + 1) ∧ gacc l ld (i + 1) < (300 * 64 ^ i : Nat) - 4
 | 0 => by have := nb_lt l 0; simp [gacc]; omega
 | i + 1 => by
   have := gacc_lt l h0 h1 i
   have := nb_lt l (i + 1)
   have : 0 < 64 ^ i := Nat.pow_pos (by omega)
   simp only [gacc, Nat.pow_succ]
   omega
set_option maxHeartbeats 1000000 in
set_option maxRecDepth 100000 in
theorem guess_walk {w : World} {s : ByteArray} {ld : Int} (n : Nat) (hn : s.size = n + 1) (h4 : n < 4) (h0 : 0 ≤ ld) (h1 : ld ≤ 255) (hld : (#[.int .i64 0, .int .i64 192, .int .i64 224, .int .i64 240] : Array Value)[n]? = some (.int .i64 ld)) :
   Calls Tryz.prog 120 #[.string s] w fun e w' => e = .returned (.int .i64 (gacc s.data.toList ld (n + 1))) ∧ Below w.heap.size w w' := by
 have hz : (0 : Int) < (s.size : Int) := by omega
 have hx0 := at_nb s 0 (by omega)
 have hc : (w.alloc (.cells #[.int .i64 0, .int .i64 192, .int .i64 224, .int .i64 240] 3)).cell? ⟨w.heap.size, n, none⟩ = some (.int .i64 ld) := (cell_of (World.alloc_heap_new w _) n).trans hld
 have hsz : (s.size : Int) - 1 = n := by omega
 go_enter Tryz.func120, Tryz.ntmps120
 go_wp2_with fail
 go_quiet (fail)
 go_wp2_with fail
 go_loopw [4, 5] (fun c i wr => ∃ k : Nat, 1 ≤ k ∧ k ≤ n + 1 ∧ c = .int .i64 (gacc s.data.toList ld k) ∧ i = .int .i64 k ∧ Below w.heap.size w wr) (fun _ i _ => n + 1 - (intOf i).toNat)
 case atStart =>
   refine ⟨1, by omega, by omega, ?_, rfl, below_drewN ((Below.refl _ w).alloc (Nat.le_refl _) _) _⟩
   have := nb_lt s.data.toList 0
   simp only [gacc, Value.int.injEq, true_and]
   unfold wrap64
   omega
 case round =>
   clear hc
   obtain ⟨k, hk1, hkz, rfl, rfl, hbel⟩ := hrel
   by_cases hlt : k < n + 1
   · have hks : (k : Int) < (s.size : Int) := by omega
     have hxk := at_nb s k (by omega)
     have hb : -1000000000000 < gacc s.data.toList ld k ∧ gacc s.data.toList ld k < 1000000000000 := by
       have h3 : k - 1 + 1 = k := by omega
       have h4 := gacc_lt s.data.toList h0 h1 (k - 1)
       rw [h3] at h4
       have h5 : 64 ^ (k - 1) ≤ 64 ^ 3 := Nat.pow_le_pow_right (by omega) (by omega)
       omega
     obtain ⟨b1, b2⟩ := hb
     have b3 := nb_lt s.data.toList k
     go_wp2_with fail
     go_roundw
     case rel =>
       refine ⟨k + 1, by omega, by omega, ?_, by go_num, hbel⟩
       match k, hk1 with
       | k + 1, _ => simp only [gacc]
     case measure => simp [intOf]; omega
   · obtain rfl : k = n + 1 := by omega
     go_wp2_with fail
     go_ret
     exact ⟨rfl, hbel⟩
def lead : Nat → Int
 | 0 => 0
 | 1 => 192
 | 2 => 224
 | _ => 240
def gv (t : List UInt8) : Int := gacc t (lead (t.length - 1)) t.length
theorem guess_any {w : World} {s : ByteArray} (h1 : 1 ≤ s.size) (h4 : s.size ≤ 4) :
   Calls Tryz.prog 120 #[.string s] w fun e w' => e = .returned (.int .i64 (gv s.data.toList)) ∧ Below w.heap.size w w' := by
 have hlen : s.data.toList.length = s.size := by simp
 unfold gv
 rw [hlen]
 rcases (show s.size = 1 ∨ s.size = 2 ∨ s.size = 3 ∨ s.size = 4 by omega) with h | h | h | h <;> rw [h]
 · exact guess_walk 0 h (by omega) (by decide) (by decide) rfl
 · exact guess_walk 1 h (by omega) (by decide) (by decide) rfl
 · exact guess_walk 2 h (by omega) (by decide) (by decide) rfl
 · exact guess_walk 3 h (by omega) (by decide) (by decide) rfl
theorem gv_range {t : List UInt8} (h1 : 1 ≤ t.length) (h4 : t.length ≤ 4) : -9223372036854775808 ≤ gv t ∧ gv t ≤ 9223372036854775807 := by
 unfold gv
 obtain ⟨n, hn⟩ : ∃ n, t.length = n + 1 := ⟨t.length - 1, by omega⟩
 rw [hn]
 have hl : 0 ≤ lead (n + 1 - 1) ∧ lead (n + 1 - 1) ≤ 255 := by
   unfold lead
   split <;> decide
 have := gacc_lt t hl.1 hl.2 n
 have h5 : 64 ^ n ≤ 64 ^ 3 := Nat.pow_le_pow_right (by omega) (by omega)
 omega
theorem gv_enc {k : Nat} (hk : Scalar k) : gv (enc k) = k := by
 have hk' := hk
 unfold Scalar at hk'
 rcases enc_kinds hk with ⟨m1, e⟩ | ⟨m1, m2, e⟩ | ⟨m1, m2, e⟩ | ⟨m1, m2, e⟩ <;> rw [e]
 · have n0 : nb [UInt8.ofNat k] 0 = k := nbc (by omega)
   simp only [gv, List.length_cons, List.length_nil, Nat.zero_add, Nat.sub_self, lead, gacc, n0]
   omega
 · generalize hl : [UInt8.ofNat (192 + k / 64), UInt8.ofNat (128 + k % 64)] = l
   have n0 : nb l 0 = 192 + k / 64 := by rw [← hl]; exact nbc (by omega)
   have n1 : nb l 1 = 128 + k % 64 := by rw [← hl]; exact nbc (by omega)
   have hn : l.length = 2 := by rw [← hl]; rfl
   simp only [gv, hn, lead, gacc, n0, n1, Nat.zero_add, Nat.reduceSub]
   omega
 · generalize hl : [UInt8.ofNat (224 + k / 4096), UInt8.ofNat (128 + k / 64 % 64), UInt8.ofNat (128 + k % 64)] = l
   have n0 : nb l 0 = 224 + k / 4096 := by rw [← hl]; exact nbc (by omega)
   have n1 : nb l 1 = 128 + k / 64 % 64 := by rw [← hl]; exact nbc (by omega)
   have n2 : nb l 2 = 128 + k % 64 := by rw [← hl]; exact nbc (by omega)
   have hn : l.length = 3 := by rw [← hl]; rfl
   simp only [gv, hn, lead, gacc, n0, n1, n2, Nat.zero_add, Nat.reduceSub, Nat.reduceAdd]
   omega
 · generalize hl : [UInt8.ofNat (240 + k / 262144), UInt8.ofNat (128 + k / 4096 % 64), UInt8.ofNat (128 + k / 64 % 64), UInt8.ofNat (128 + k % 64)] = l
   have n0 : nb l 0 = 240 + k / 262144 := by rw [← hl]; exact nbc (by omega)
   have n1 : nb l 1 = 128 + k / 4096 % 64 := by rw [← hl]; exact nbc (by omega)
   have n2 : nb l 2 = 128 + k / 64 % 64 := by rw [← hl]; exact nbc (by omega)
   have n3 : nb l 3 = 128 + k % 64 := by rw [← hl]; exact nbc (by omega)
   have hn : l.length = 4 := by rw [← hl]; rfl
   simp only [gv, hn, lead, gacc, n0, n1, n2, n3, Nat.zero_add, Nat.reduceSub, Nat.reduceAdd]
   omega
theorem putL_of {k : Nat} (hk : Scalar k) : putL (k : Int) = enc k := by
 unfold Scalar at hk
 unfold putL
 rw [if_pos (by omega), Int.toNat_natCast]
theorem hit {m : List UInt8} {n : Nat} (h1 : 1 ≤ n) (hn : n ≤ m.length) {c : Int} (h : putL c = m.take n) : ∃ k : Nat, c = k ∧ one m = (k, n) := by
 by_cases hc : 0 ≤ c ∧ c ≤ 1114111 ∧ (c < 55296 ∨ 57343 < c)
 · obtain ⟨k, rfl⟩ := Int.eq_ofNat_of_zero_le hc.1
   have hk : Scalar k := by unfold Scalar; omega
   rw [putL_of hk] at h
   exact ⟨k, rfl, one_of_take hk h.symm hn⟩
 · unfold putL at h
   rw [if_neg hc] at h
   have := congrArg List.length h
   rw [List.length_take, List.length_nil] at this
   omega
theorem miss {m : List UInt8} (h : ∀ n, 1 ≤ n → n ≤ 4 → n ≤ m.length → putL (gv (m.take n)) ≠ m.take n) : one m = (0, 0) := by
 by_cases h0 : (one m).2 = 0
 · have : (one m).2 = 0 → one m = (0, 0) := by
     unfold one
     split
     · intro e; cases e
     split
     · intro e; cases e
     split
     · intro e; cases e
     split
     · intro e; cases e
     · intro _; rfl
   exact this h0
 · exfalso
   obtain ⟨h1, h2, h3⟩ := one_bytes h0
   have hl := congrArg List.length h2
   rw [List.length_take, Nat.min_eq_left h3] at hl
   have h5 := enc_len (c := (one m).1)
   refine h (one m).2 (by omega) (by omega) h3 ?_
   rw [h2, gv_enc h1, putL_of h1]
theorem extract_mid (s : ByteArray) (k n : Nat) : (s.extract k (k + n)).data.toList = (s.data.toList.drop k).take n := by
 rw [ByteArray.data_extract, Array.toList_extract, List.extract_eq_take_drop, Nat.add_sub_cancel_left]
set_option maxHeartbeats 1000000 in
set_option maxRecDepth 100000 in
theorem rone_any {w : World} {s : ByteArray} {k : Nat} (hs : s.size < 4611686018427387904) (hk : k < s.size) :
   Calls Tryz.prog 87 #[.string s, .int .i64 k] w fun e w' => e = .returned (.tuple #[.int .i64 (one (s.data.toList.drop k)).1, .int .i64 (one (s.data.toList.drop k)).2]) ∧ Below w.heap.size w w' := by
 have hlen : s.data.toList.length = s.size := by simp
 have hml : (s.data.toList.drop k).length = s.size - k := by rw [List.length_drop, hlen]
 go_enter Tryz.func87, Tryz.ntmps87
 go_wp2_with fail
 go_loopw [6] (fun i wr => ∃ n : Nat, 1 ≤ n ∧ n ≤ 5 ∧ n ≤ s.size - k + 1 ∧ i = .int .i64 n ∧ (∀ j, 1 ≤ j → j < n → putL (gv ((s.data.toList.drop k).take j)) ≠ (s.data.toList.drop k).take j) ∧ Below w.heap.size w wr) (fun i _ => 5 - (intOf i).toNat)
 case atStart => exact ⟨1, by omega, by omega, by omega, rfl, fun j h1 h2 => by omega, Below.refl _ _⟩
 case round =>
   obtain ⟨n, hn1, hn5, hnl, rfl, hno, hbel⟩ := hrel
   by_cases h5 : n ≤ 4
   · have h5' : (n : Int) ≤ 4 := by omega
     by_cases hle : k + n ≤ s.size
     · have hnm : n ≤ (s.data.toList.drop k).length := by rw [hml]; omega
       have hn5' : n + 1 ≤ 5 := Nat.succ_le_succ h5
       have hnl' : n + 1 ≤ s.size - k + 1 := by omega
       have hle' : (k : Int) + (n : Int) ≤ (s.size : Int) := by omega
       have hsz : (s.extract k (k + n)).size = n := by simp; omega
       have hg := guess_any (w := wr) (s := s.extract k (k + n)) (by omega) (by omega)
       rw [extract_mid] at hg
       obtain ⟨g1, g2⟩ := gv_range (t := (s.data.toList.drop k).take n) (by rw [List.length_take, hml]; omega) (by rw [List.length_take, hml]; omega)
       go_wp2_with fail
       refine hg.mono ?_
       rintro e w1 ⟨rfl, b1⟩
       go_wp2_with fail
       have hsl : ∀ wx, (Instr.slice 9 (.string s) (some (.int .i64 k)) (some (.int .i64 ((k : Int) + (n : Int)))) none).run Tryz.prog wx = .ok (.string (s.extract k (k + n))) wx := fun wx => by
         have := run_slice_string (P := Tryz.prog) wx 9 s .i64 .i64 k ((k : Int) + n) Tryz.underlying9 (by omega) (by omega) (by omega)
         rw [this]
         rfl
       have q1 : (0 : Int) ≤ (k : Int) + (n : Int) := by omega
       have q2 : (k : Int) ≤ (k : Int) + (n : Int) := by omega
       have q3 : ((k : Int) + (n : Int)).toNat = k + n := by omega
       have hw : IntKind.i64.wrap ((k : Int) + (n : Int)) = (k : Int) + (n : Int) := by
         simp only [IntKind.wrap, IntKind.signed, IntKind.bits]
         simp
         omega
       have hw' : wrap64 ((k : Int) + (n : Int)) = (k : Int) + (n : Int) := by unfold wrap64; omega
       have hS := hbel.trans (b1.mono hbel.size)
       go_region_held3 (fun wx => Below w.heap.size w wx) (first | assumption | exact below_drewN hS 1 | exact Below.trans (by assumption) (Below.mono (by assumption) (Below.size (by assumption)))) (first | (go_at_call 121; refine (rput_any g1 g2).mono ?_; rintro e w2 ⟨rfl, b2⟩))
       have hx : (s.extract k (k + n)).toList = (s.data.toList.drop k).take n := by rw [ByteArray.toList_eq, extract_mid]
       by_cases hh : putL (gv ((s.data.toList.drop k).take n)) = (s.data.toList.drop k).take n
       · have hb : (putL (gv ((s.data.toList.drop k).take n)) == (s.extract k (k + n)).toList) = true := by rw [hx, hh]; exact beq_self_eq_true _
         obtain ⟨c, hc, ho⟩ := hit hn1 hnm hh
         rw [hb]
         clear hb hx hh
         go_wp2_with fail
         go_ret2
         exact ⟨by rw [ho, ← hc]; rfl, by assumption⟩
       · have hb : (putL (gv ((s.data.toList.drop k).take n)) == (s.extract k (k + n)).toList) = false := by rw [hx]; exact beq_false_of_ne hh
         rw [hb]
         clear hb hx
         go_wp2_with fail
         go_roundw
         case rel => exact ⟨n + 1, Nat.le_add_left _ _, hn5', hnl', by go_num, fun j h1 h2 => (Nat.lt_succ_iff_lt_or_eq.1 h2).elim (fun h => hno j h1 h) (fun h => h ▸ hh), by assumption⟩
         case measure => simp [intOf]; omega
     · have q : decide ((k : Int) + (n : Int) ≤ (s.size : Int)) = false := by simp; omega
       have ho := miss (m := s.data.toList.drop k) (fun j h1 h2 h3 => hno j h1 (by omega))
       go_wp2_with fail
       go_ret2
       exact ⟨by rw [ho]; rfl, hbel⟩
   · obtain rfl : n = 5 := by omega
     have ho := miss (m := s.data.toList.drop k) (fun j h1 h2 h3 => hno j h1 (by omega))
     go_wp2_with fail
     go_ret2
     exact ⟨by rw [ho]; rfl, hbel⟩
end Go.Proofs.YtlfbnfphocpgeaaGreatDoor.Utf
namespace Go.Proofs.YtlfbnfphocpgeaaGreatDoor.Utf
open Go.RowKit Kit
end Go.Proofs.YtlfbnfphocpgeaaGreatDoor.Utf
namespace Go.Proofs.YtlfbnfphocpgeaaGreatDoor.Tre
open Go.RowKit Kit Txt
open Num (Dec zero)
end Go.Proofs.YtlfbnfphocpgeaaGreatDoor.Tre
namespace Go.Proofs.YtlfbnfphocpgeaaGreatDoor.Tre
open Go.RowKit Kit Txt
open Num (Dec zero)
end Go.Proofs.YtlfbnfphocpgeaaGreatDoor.Tre
namespace Go.Proofs.YtlfbnfphocpgeaaGreatDoor.Tre
open Go.RowKit Kit Txt
open Num (Dec zero)
end Go.Proofs.YtlfbnfphocpgeaaGreatDoor.Tre
namespace Go.Proofs.YtlfbnfphocpgeaaGreatDoor.Tre
open Go.RowKit Kit Txt
open Num (Dec zero)
def Tells (p : Prop) (w : World) (e : Ending) (w' : World) : Prop := (∃ r : Bool, e = .returned (.bool r) ∧ (r = true ↔ p)) ∧ Below w.heap.size w w'
theorem Tells.yes {p : Prop} {w w' : World} (h : p) (b : Below w.heap.size w w') : Tells p w (.returned (.bool true)) w' := ⟨⟨true, rfl, by simp [h]⟩, b⟩
theorem Tells.no {p : Prop} {w w' : World} (h : ¬ p) (b : Below w.heap.size w w') : Tells p w (.returned (.bool false)) w' := ⟨⟨false, rfl, by simp [h]⟩, b⟩
end Go.Proofs.YtlfbnfphocpgeaaGreatDoor.Tre
namespace Go.Proofs.YtlfbnfphocpgeaaGreatDoor.Tre
open Go.RowKit Kit Txt
open Num (Dec zero)
def Mild (v : Val) : Prop := ∃ d, Fine d v
theorem Mild.kids (v : Val) (h : Mild v) : ∀ x ∈ v.kids, Mild x := by
 obtain ⟨d, h⟩ := h
 obtain ⟨k, b, n, s, ks, vs⟩ := v
 rw [Fine] at h
 exact fun x hx => ⟨d + 1, fines_iff.1 h.2.2.2.2 x hx⟩
theorem Mild.sizes {v : Val} (h : Mild v) : v.str.length ≤ 2000 ∧ v.num.dig.length ≤ 1200 ∧ ∀ x ∈ v.keys, x.length ≤ 2000 := by
 obtain ⟨d, h⟩ := h
 obtain ⟨k, b, n, s, ks, vs⟩ := v
 rw [Fine] at h
 exact ⟨h.2.1, h.2.2.1, h.2.2.2.1⟩
end Go.Proofs.YtlfbnfphocpgeaaGreatDoor.Tre
