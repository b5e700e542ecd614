/- The contracts of the document's own answers for layer 5 (package tabulariumref05): bad, Number, Take, Frame. Nothing is claimed here. -/
import Derived.Test.YtkbdahbnjklkoaaVarGet
import Derived.Test.YtkbdahbnjklkoaaFrmSpec
import Derived.IntWalk
namespace Go.Proofs.Ytkbdahbnjklkoaa.Frm
open Go.RowKit Kit Byt Var

/-- A reader as a struct; a reader then, and what was told. -/
def rdV (a : Option Addr) (n c at' e : Nat) : Value := .agg #[.slice a n c, .int .i64 at', .int .i64 e]
def gotV (a : Option Addr) (n c at' e N : Nat) (v : Value) : Value := .agg #[.slice a n c, .int .i64 at', .int .i64 e, .int .u64 N, v]

set_option maxRecDepth 100000 in
set_option maxHeartbeats 1000000 in
theorem bad_any {w : World} {a : Option Addr} {n c p q e : Nat} :
    Calls Try.prog 26 #[rdV a n c p q, .int .i64 e] w fun f w' => f = .returned (gotV a n c p e 0 (.slice none 0 0)) ∧ Below w.heap.size w w' := by
  unfold rdV gotV
  go_enter Try.func26, Try.ntmps26
  go_wp2_with fail
  refine bodyPost_ret (v := .agg #[.slice a n c, .int .i64 p, .int .i64 e, .int .u64 0, .slice none 0 0]) (by simp [results, Try.results26, go_sem]) rfl ⟨rfl, ?_⟩
  exact ((Below.refl _ w).alloc (Nat.le_refl _) _).alloc (by simp) _

set_option maxRecDepth 100000 in
set_option maxHeartbeats 4000000 in
theorem rnumber_bad {w : World} {a : Option Addr} {n c p N S E : Nat} {L : List Nat} (hn : L.length = n) (hx : Bs w (.slice a n c) L) (h1 : n < 1000000) (hp : p ≤ n) (hg : get (L.drop p) = (N, S, E)) (h0 : E ≠ 0) :
    Calls Try.prog 11 #[rdV a n c p 0] w fun f w' => f = .returned (gotV a n c p E 0 (.slice none 0 0)) ∧ Below w.heap.size w w' := by
  have hln : (L.drop p).length < 1000000000 := by rw [List.length_drop]; omega
  obtain ⟨a', c', hsl, hd⟩ := slice_from hx (m := p) (by omega)
  have H0 := Lib.hid hg
  have hpn : (p : Int) ≤ (n : Int) := by omega
  clear hg hn
  unfold rdV gotV
  have b2 : Below w.heap.size w ((w.alloc (.cells #[.slice a n c, .int .i64 p, .int .i64 0] 28)).alloc (.cells #[.slice none 0 0, .int .i64 0, .int .i64 0, .int .u64 0, .slice none 0 0] 33)) := ((Below.refl _ w).alloc (Nat.le_refl _) _).alloc (by simp) _
  have hc2 : ((w.alloc (.cells #[.slice a n c, .int .i64 p, .int .i64 0] 28)).alloc (.cells #[.slice none 0 0, .int .i64 0, .int .i64 0, .int .u64 0, .slice none 0 0] 33)).heap[w.heap.size]? = some (.cells #[.slice a n c, .int .i64 p, .int .i64 0] 28 (0, 0)) := new_of (World.alloc_heap_new w _) _
  have hd2 := World.alloc_heap_new (w.alloc (.cells #[.slice a n c, .int .i64 p, .int .i64 0] 28)) (.cells #[.slice none 0 0, .int .i64 0, .int .i64 0, .int .u64 0, .slice none 0 0] 33)
  rw [World.size_alloc] at hd2
  have hz2 : w.heap.size + 1 < ((w.alloc (.cells #[.slice a n c, .int .i64 p, .int .i64 0] 28)).alloc (.cells #[.slice none 0 0, .int .i64 0, .int .i64 0, .int .u64 0, .slice none 0 0] 33)).heap.size := by simp
  have hg2 := rget_is H0.out (hd.below b2) hln
  go_enter Try.func11, Try.ntmps11
  go_wp2_with fail
  refine hg2.mono ?_
  rintro f w3 ⟨rfl, k3⟩
  have b3 := b2.trans (k3.mono b2.size)
  have hc3 := (k3.block _ (lt_of_heap hc2)).trans hc2
  have hd3 := (k3.block _ (lt_of_heap hd2)).trans hd2
  have hz3 : w.heap.size + 1 < w3.heap.size := Nat.lt_of_lt_of_le hz2 k3.size
  have hz3' : w.heap.size < w3.heap.size := by omega
  clear hc2 hd2 hg2 k3 b2 hz2
  have c0 := cell_of hc3 0
  have c1 := cell_of hc3 1
  have c2 := cell_of hc3 2
  have f1 := free_of hc3 1
  have d0 := free_of hd3 0
  have d1 := free_of hd3 1
  have d2 := free_of hd3 2
  have d3 := free_of hd3 3
  have d4 := free_of hd3 4
  have e0 := cell_of hd3 0
  have e1 := cell_of hd3 1
  have e2 := cell_of hd3 2
  have e3 := cell_of hd3 3
  have e4 := cell_of hd3 4
  have h0' : ((E : Int) != 0) = true := by simp; omega
  have b4 := b3.alloc b3.size (.cells #[.int .u64 N, .int .i64 S, .int .i64 E] 62)
  have hd4 : (w3.alloc (.cells #[.int .u64 N, .int .i64 S, .int .i64 E] 62)).heap[w.heap.size + 1]? = _ := new_of hd3 _
  have hb := bad_any (w := w3.alloc (.cells #[.int .u64 N, .int .i64 S, .int .i64 E] 62)) (a := a) (n := n) (c := c) (p := p) (q := 0) (e := E)
  unfold rdV gotV at hb
  go_wp2_with fail
  refine hb.mono ?_
  rintro f w5 ⟨rfl, k5⟩
  have b5 := b4.trans (k5.mono b4.size)
  have hd5 := (k5.block _ (lt_of_heap hd4)).trans hd4
  have hz5 : w.heap.size + 1 < w5.heap.size := lt_of_heap hd5
  clear k5 hb b3 b4 hd4 hd3 hc3 c0 c1 c2 f1 d0 d1 d2 d3 d4 e0 e1 e2 e3 e4 hz3 hz3'
  have d0 := free_of hd5 0
  have d1 := free_of hd5 1
  have d2 := free_of hd5 2
  have d3 := free_of hd5 3
  have d4 := free_of hd5 4
  have e0 := cell_of hd5 0
  have e1 := cell_of hd5 1
  have e2 := cell_of hd5 2
  have e3 := cell_of hd5 3
  have e4 := cell_of hd5 4
  go_wp2_with fail
  refine bodyPost_ret (v := .agg #[.slice a n c, .int .i64 p, .int .i64 E, .int .u64 0, .slice none 0 0]) (by simp [results, Try.results11, go_sem, *]) rfl ⟨rfl, ?_⟩
  iterate 5 refine Below.setCell ?_ (by simp) _
  exact b5

set_option maxRecDepth 100000 in
set_option maxHeartbeats 4000000 in
theorem rnumber_good {w : World} {a : Option Addr} {n c p N S E : Nat} {L : List Nat} (hn : L.length = n) (hx : Bs w (.slice a n c) L) (h1 : n < 1000000) (hp : p ≤ n) (hg : get (L.drop p) = (N, S, E)) (h0 : E = 0) (hS : p + S ≤ n) :
    Calls Try.prog 11 #[rdV a n c p 0] w fun f w' => f = .returned (gotV a n c (p + S) 0 N (.slice none 0 0)) ∧ Below w.heap.size w w' := by
  have hln : (L.drop p).length < 1000000000 := by rw [List.length_drop]; omega
  obtain ⟨a', c', hsl, hd⟩ := slice_from hx (m := p) (by omega)
  have H0 := Lib.hid hg
  have hpn : (p : Int) ≤ (n : Int) := by omega
  clear hg hn
  unfold rdV gotV
  have b2 : Below w.heap.size w ((w.alloc (.cells #[.slice a n c, .int .i64 p, .int .i64 0] 28)).alloc (.cells #[.slice none 0 0, .int .i64 0, .int .i64 0, .int .u64 0, .slice none 0 0] 33)) := ((Below.refl _ w).alloc (Nat.le_refl _) _).alloc (by simp) _
  have hc2 : ((w.alloc (.cells #[.slice a n c, .int .i64 p, .int .i64 0] 28)).alloc (.cells #[.slice none 0 0, .int .i64 0, .int .i64 0, .int .u64 0, .slice none 0 0] 33)).heap[w.heap.size]? = some (.cells #[.slice a n c, .int .i64 p, .int .i64 0] 28 (0, 0)) := new_of (World.alloc_heap_new w _) _
  have hd2 := World.alloc_heap_new (w.alloc (.cells #[.slice a n c, .int .i64 p, .int .i64 0] 28)) (.cells #[.slice none 0 0, .int .i64 0, .int .i64 0, .int .u64 0, .slice none 0 0] 33)
  rw [World.size_alloc] at hd2
  have hz2 : w.heap.size + 1 < ((w.alloc (.cells #[.slice a n c, .int .i64 p, .int .i64 0] 28)).alloc (.cells #[.slice none 0 0, .int .i64 0, .int .i64 0, .int .u64 0, .slice none 0 0] 33)).heap.size := by simp
  have hg2 := rget_is H0.out (hd.below b2) hln
  go_enter Try.func11, Try.ntmps11
  go_wp2_with fail
  refine hg2.mono ?_
  rintro f w3 ⟨rfl, k3⟩
  have b3 := b2.trans (k3.mono b2.size)
  have hc3 := (k3.block _ (lt_of_heap hc2)).trans hc2
  have hd3 := (k3.block _ (lt_of_heap hd2)).trans hd2
  have hz3 : w.heap.size + 1 < w3.heap.size := Nat.lt_of_lt_of_le hz2 k3.size
  have hz3' : w.heap.size < w3.heap.size := by omega
  clear hc2 hd2 hg2 k3 b2 hz2
  have c0 := cell_of hc3 0
  have c1 := cell_of hc3 1
  have c2 := cell_of hc3 2
  have f1 := free_of hc3 1
  have d0 := free_of hd3 0
  have d1 := free_of hd3 1
  have d2 := free_of hd3 2
  have d3 := free_of hd3 3
  have d4 := free_of hd3 4
  have e0 := cell_of hd3 0
  have e1 := cell_of hd3 1
  have e2 := cell_of hd3 2
  have e3 := cell_of hd3 3
  have e4 := cell_of hd3 4
  subst h0
  have b4 := b3
  go_wp2_with fail
  refine bodyPost_ret (v := .agg #[.slice a n c, .int .i64 (p + S), .int .i64 0, .int .u64 N, .slice none 0 0]) (by simp [results, Try.results11, go_sem, *]) rfl ⟨rfl, ?_⟩
  refine Below.alloc ?_ (by simp; omega) _
  iterate 6 refine Below.setCell ?_ (by simp) _
  exact b4

theorem rnumber_kept {w : World} {a : Option Addr} {n c p e : Nat} (he : e ≠ 0) :
    Calls Try.prog 11 #[rdV a n c p e] w fun f w' => f = .returned (gotV a n c p e 0 (.slice none 0 0)) ∧ Below w.heap.size w w' := by
  have he' : ((e : Int) != 0) = true := by simp; omega
  unfold rdV gotV
  go_enter Try.func11, Try.ntmps11
  go_wp2_with fail
  refine bodyPost_ret (v := .agg #[.slice a n c, .int .i64 p, .int .i64 e, .int .u64 0, .slice none 0 0]) (by simp [results, Try.results11, go_sem]) rfl ⟨rfl, ?_⟩
  exact ((Below.refl _ w).alloc (Nat.le_refl _) _).alloc (by simp) _

theorem rnumber_any {w : World} {a : Option Addr} {n c p e : Nat} {L : List Nat} (hn : L.length = n) (hx : Bs w (.slice a n c) L) (h1 : n < 1000000) (hp : p ≤ n) :
    Calls Try.prog 11 #[rdV a n c p e] w fun f w' => f = .returned (gotV a n c (number L p e).1 (number L p e).2.1 (number L p e).2.2 (.slice none 0 0)) ∧ Below w.heap.size w w' := by
  by_cases he : e = 0
  · subst he
    have hor := get_or (L.drop p)
    rw [List.length_drop] at hor
    obtain ⟨N, S, E, hg⟩ : ∃ N S E, get (L.drop p) = (N, S, E) := ⟨_, _, _, rfl⟩
    rw [hg] at hor
    dsimp only at hor
    by_cases hE : E = 0
    · have hr : number L p 0 = (p + S, 0, N) := by unfold number; rw [if_neg (by omega), hg, if_neg (by simpa using hE)]
      rw [hr]
      exact rnumber_good hn hx h1 hp hg hE (by omega)
    · have hr : number L p 0 = (p, E, 0) := by unfold number; rw [if_neg (by omega), hg, if_pos hE]
      rw [hr]
      exact rnumber_bad hn hx h1 hp hg hE
  · have hr : number L p e = (p, e, 0) := by unfold number; rw [if_pos he]
    rw [hr]
    exact rnumber_kept he

set_option maxRecDepth 100000 in
set_option maxHeartbeats 4000000 in
theorem rtake_none {w : World} {a : Option Addr} {n c p e : Nat} {m : Int} (h : e ≠ 0 ∨ m ≤ 0) :
    Calls Try.prog 9 #[rdV a n c p e, .int .i64 m] w fun f w' => f = .returned (gotV a n c p e 0 (.slice none 0 0)) ∧ Below w.heap.size w w' := by
  have hcase : ((e : Int) != 0) = true ∨ (((e : Int) != 0) = false ∧ m ≤ 0) := by
    simp
    omega
  clear h
  unfold rdV gotV
  rcases hcase with h | ⟨h, h'⟩
  all_goals
    go_enter Try.func9, Try.ntmps9
    go_wp2_with fail
    refine bodyPost_ret (v := .agg #[.slice a n c, .int .i64 p, .int .i64 e, .int .u64 0, .slice none 0 0]) (by simp [results, Try.results9, go_sem]) rfl ⟨rfl, ?_⟩
    exact ((Below.refl _ w).alloc (Nat.le_refl _) _).alloc (by simp) _

set_option maxRecDepth 100000 in
set_option maxHeartbeats 4000000 in
theorem rtake_short {w : World} {a : Option Addr} {n c p : Nat} {m : Int} (h0 : 0 < m) (h1 : n < 1000000) (hp : p ≤ n) (hs : (n : Int) - p < m) :
    Calls Try.prog 9 #[rdV a n c p 0, .int .i64 m] w fun f w' => f = .returned (gotV a n c p 2 0 (.slice none 0 0)) ∧ Below w.heap.size w w' := by
  have hs' : ¬ m ≤ 0 := by omega
  have hs'' : decide (m ≤ 0) = false := by simp; omega
  unfold rdV gotV
  have b2 : Below w.heap.size w ((w.alloc (.cells #[.slice a n c, .int .i64 p, .int .i64 0] 28)).alloc (.cells #[.slice none 0 0, .int .i64 0, .int .i64 0, .int .u64 0, .slice none 0 0] 33)) := ((Below.refl _ w).alloc (Nat.le_refl _) _).alloc (by simp) _
  have hd2 := World.alloc_heap_new (w.alloc (.cells #[.slice a n c, .int .i64 p, .int .i64 0] 28)) (.cells #[.slice none 0 0, .int .i64 0, .int .i64 0, .int .u64 0, .slice none 0 0] 33)
  rw [World.size_alloc] at hd2
  have hb := bad_any (w := ((w.alloc (.cells #[.slice a n c, .int .i64 p, .int .i64 0] 28)).alloc (.cells #[.slice none 0 0, .int .i64 0, .int .i64 0, .int .u64 0, .slice none 0 0] 33))) (a := a) (n := n) (c := c) (p := p) (q := 0) (e := 2)
  unfold rdV gotV at hb
  go_enter Try.func9, Try.ntmps9
  go_wp2_with fail
  refine hb.mono ?_
  rintro f w5 ⟨rfl, k5⟩
  have b5 := b2.trans (k5.mono b2.size)
  have hd5 := (k5.block _ (lt_of_heap hd2)).trans hd2
  have hz5 : w.heap.size + 1 < w5.heap.size := lt_of_heap hd5
  clear k5 hb hd2
  have d0 := free_of hd5 0
  have d1 := free_of hd5 1
  have d2 := free_of hd5 2
  have d3 := free_of hd5 3
  have d4 := free_of hd5 4
  have e0 := cell_of hd5 0
  have e1 := cell_of hd5 1
  have e2 := cell_of hd5 2
  have e3 := cell_of hd5 3
  have e4 := cell_of hd5 4
  go_wp2_with fail
  refine bodyPost_ret (v := .agg #[.slice a n c, .int .i64 p, .int .i64 2, .int .u64 0, .slice none 0 0]) (by simp [results, Try.results9, go_sem, *]) rfl ⟨rfl, ?_⟩
  iterate 5 refine Below.setCell ?_ (by simp) _
  exact b5

set_option maxRecDepth 100000 in
set_option maxHeartbeats 4000000 in
theorem rtake_good {w : World} {a : Option Addr} {n c p m : Nat} {L : List Nat} (hn : L.length = n) (hx : Bs w (.slice a n c) L) (h0 : 0 < m) (h1 : n < 1000000) (hp : p + m ≤ n) :
    Calls Try.prog 9 #[rdV a n c p 0, .int .i64 m] w fun f w' => ∃ a' c', f = .returned (gotV a n c (p + m) 0 0 (.slice a' m c')) ∧ (∀ wx, Bs wx (.slice a n c) L → Bs wx (.slice a' m c') ((L.drop p).take m)) ∧ Below w.heap.size w w' := by
  obtain ⟨a', c', hsl, hd⟩ := slice_mid hx (m := p) (k := p + m) (x := (p : Int)) (y := (p : Int) + (m : Int)) rfl (by omega) (by omega) (by omega)
  rw [Nat.add_sub_cancel_left] at hsl hd
  have hs : decide ((n : Int) - (p : Int) < (m : Int)) = false := by simp; omega
  have h0' : decide ((m : Int) ≤ 0) = false := by simp; omega
  have h0'' : (0 : Int) < (m : Int) := by omega
  have hb : (p : Int) + (m : Int) ≤ 1000000 := by omega
  unfold rdV gotV
  have b2 : Below w.heap.size w ((w.alloc (.cells #[.slice a n c, .int .i64 ((p : Int) + (m : Int)), .int .i64 0] 28)).alloc (.cells #[.slice a n c, .int .i64 ((p : Int) + (m : Int)), .int .i64 0, .int .u64 0, .slice a' m c'] 33)) := ((Below.refl _ w).alloc (Nat.le_refl _) _).alloc (by simp) _
  have HD := Lib.hid hd
  clear hd
  go_enter Try.func9, Try.ntmps9
  go_wp2_with fail
  refine bodyPost_ret (v := .agg #[.slice a n c, .int .i64 (p + m), .int .i64 0, .int .u64 0, .slice a' m c']) (by simp [results, Try.results9, go_sem, *]) rfl ⟨a', c', rfl, HD.out, b2⟩

/-- Take, whatever the reader and the number. -/
theorem rtake_any {w : World} {a : Option Addr} {n c p e : Nat} {m : Int} {L : List Nat} (hn : L.length = n) (hx : Bs w (.slice a n c) L) (h1 : n < 1000000) (hp : p ≤ n) :
    Calls Try.prog 9 #[rdV a n c p e, .int .i64 m] w fun f w' => ∃ a' N' c', f = .returned (gotV a n c (take L p e m).1 (take L p e m).2.1 0 (.slice a' N' c')) ∧ (∀ wx, Bs wx (.slice a n c) L → Bs wx (.slice a' N' c') (take L p e m).2.2) ∧ Below w.heap.size w w' := by
  by_cases h0 : e ≠ 0 ∨ m ≤ 0
  · have hr : take L p e m = (p, e, []) := by unfold take; rw [if_pos h0]
    rw [hr]
    refine (rtake_none h0).mono fun f w' => ?_
    rintro ⟨rfl, b⟩
    exact ⟨none, 0, 0, rfl, fun _ _ => Bs.nil _, b⟩
  · obtain rfl : e = 0 := by omega
    by_cases hs : ((L.length - p : Nat) : Int) < m
    · have hr : take L p 0 m = (p, 2, []) := by unfold take; rw [if_neg h0, if_pos hs]
      rw [hr]
      refine (rtake_short (by omega) h1 hp (by omega)).mono fun f w' => ?_
      rintro ⟨rfl, b⟩
      exact ⟨none, 0, 0, rfl, fun _ _ => Bs.nil _, b⟩
    · have hr : take L p 0 m = (p + m.toNat, 0, (L.drop p).take m.toNat) := by unfold take; rw [if_neg h0, if_neg hs]
      rw [hr]
      obtain ⟨k, rfl⟩ := Int.eq_ofNat_of_zero_le (show 0 ≤ m by omega)
      rw [Int.toNat_natCast]
      refine (rtake_good hn hx (by omega) h1 (by omega)).mono fun f w' => ?_
      rintro ⟨a', c', rfl, hd, b⟩
      exact ⟨a', k, c', rfl, hd, b⟩
end Go.Proofs.Ytkbdahbnjklkoaa.Frm
