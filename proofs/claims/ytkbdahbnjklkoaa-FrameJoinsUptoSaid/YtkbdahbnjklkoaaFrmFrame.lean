/- The contract of tabulariumref05.Frame. Nothing is claimed here. -/
import Derived.Test.YtkbdahbnjklkoaaFrmRef
namespace Go.Proofs.Ytkbdahbnjklkoaa.Frm
open Go.RowKit Kit Byt Var

theorem wrap_u64 {m : Nat} (h : m < 18446744073709551616) : IntKind.u64.wrap (m : Int) = (m : Int) := by
  simp only [IntKind.wrap, IntKind.signed, IntKind.bits]
  simp
  omega

set_option maxRecDepth 100000 in
set_option maxHeartbeats 4000000 in
theorem rframe_err {w : World} {a : Option Addr} {n c p e q e1 N : Nat} {most : Int} {L : List Nat} (hn : L.length = n) (hx : Bs w (.slice a n c) L) (h1 : n < 1000000) (hp : p ≤ n) (hnum : number L p e = (q, e1, N)) (he : e1 ≠ 0) :
    Calls Try.prog 15 #[rdV a n c p e, .int .i64 most] w fun f w' => f = .returned (gotV a n c p e1 0 (.slice none 0 0)) ∧ Below w.heap.size w w' := by
  have b2 : Below w.heap.size w ((w.alloc (.cells #[.slice a n c, .int .i64 p, .int .i64 e] 28)).alloc (.cells #[.slice none 0 0, .int .i64 0, .int .i64 0, .int .u64 0, .slice none 0 0] 33)) := ((Below.refl _ w).alloc (Nat.le_refl _) _).alloc (by simp) _
  have hc2 : ((w.alloc (.cells #[.slice a n c, .int .i64 p, .int .i64 e] 28)).alloc (.cells #[.slice none 0 0, .int .i64 0, .int .i64 0, .int .u64 0, .slice none 0 0] 33)).heap[w.heap.size]? = some (.cells #[.slice a n c, .int .i64 p, .int .i64 e] 28 (0, 0)) := new_of (World.alloc_heap_new w _) _
  have hd2 := World.alloc_heap_new (w.alloc (.cells #[.slice a n c, .int .i64 p, .int .i64 e] 28)) (.cells #[.slice none 0 0, .int .i64 0, .int .i64 0, .int .u64 0, .slice none 0 0] 33)
  rw [World.size_alloc] at hd2
  have hg2 := rnumber_any (e := e) hn (hx.below b2) h1 hp
  rw [hnum] at hg2
  dsimp only at hg2
  obtain ⟨rfl, rfl⟩ := number_err hnum he
  have he' : ((e1 : Int) != 0) = true := by simp; omega
  have H0 := Lib.hid hn
  clear hnum hn
  unfold rdV gotV at hg2
  unfold rdV gotV
  go_enter Try.func15, Try.ntmps15
  go_wp2_with fail
  refine hg2.mono ?_
  rintro f w3 ⟨rfl, k3⟩
  have b3 := b2.trans (k3.mono b2.size)
  have hx3 := hx.below b3
  have hc3 := (k3.block _ (lt_of_heap hc2)).trans hc2
  have hd3 := (k3.block _ (lt_of_heap hd2)).trans hd2
  have hz3 : w.heap.size + 1 < w3.heap.size := lt_of_heap hd3
  have hz3' : w.heap.size < w3.heap.size := by omega
  clear hc2 hd2 hg2 k3 b2
  have c0 := cell_of hc3 0
  have c1 := cell_of hc3 1
  have c2 := cell_of hc3 2
  have d0 := free_of hd3 0
  have d1 := free_of hd3 1
  have d2 := free_of hd3 2
  have d3 := free_of hd3 3
  have d4 := free_of hd3 4
  have e0 := cell_of hd3 0
  have e1' := cell_of hd3 1
  have e2 := cell_of hd3 2
  have e3 := cell_of hd3 3
  have e4 := cell_of hd3 4
  go_wp2_with fail
  refine bodyPost_ret (v := .agg #[.slice a n c, .int .i64 q, .int .i64 e1, .int .u64 0, .slice none 0 0]) (by simp [results, Try.results15, go_sem, *]) rfl ⟨rfl, ?_⟩
  refine Below.alloc ?_ (by simp; omega) _
  iterate 5 refine Below.setCell ?_ (by simp) _
  exact b3

set_option maxRecDepth 100000 in
set_option maxHeartbeats 4000000 in
theorem rframe_big {w : World} {a : Option Addr} {n c p e q e1 N : Nat} {most : Int} {L : List Nat} (hn : L.length = n) (hx : Bs w (.slice a n c) L) (h1 : n < 1000000) (hp : p ≤ n) (hnum : number L p e = (q, e1, N)) (he : e1 = 0) (h0 : 0 ≤ most) (hm1 : most ≤ 9223372036854775807) (hbig : most < N) :
    Calls Try.prog 15 #[rdV a n c p e, .int .i64 most] w fun f w' => f = .returned (gotV a n c p 4 0 (.slice none 0 0)) ∧ Below w.heap.size w w' := by
  have b2 : Below w.heap.size w ((w.alloc (.cells #[.slice a n c, .int .i64 p, .int .i64 e] 28)).alloc (.cells #[.slice none 0 0, .int .i64 0, .int .i64 0, .int .u64 0, .slice none 0 0] 33)) := ((Below.refl _ w).alloc (Nat.le_refl _) _).alloc (by simp) _
  have hc2 : ((w.alloc (.cells #[.slice a n c, .int .i64 p, .int .i64 e] 28)).alloc (.cells #[.slice none 0 0, .int .i64 0, .int .i64 0, .int .u64 0, .slice none 0 0] 33)).heap[w.heap.size]? = some (.cells #[.slice a n c, .int .i64 p, .int .i64 e] 28 (0, 0)) := new_of (World.alloc_heap_new w _) _
  have hd2 := World.alloc_heap_new (w.alloc (.cells #[.slice a n c, .int .i64 p, .int .i64 e] 28)) (.cells #[.slice none 0 0, .int .i64 0, .int .i64 0, .int .u64 0, .slice none 0 0] 33)
  rw [World.size_alloc] at hd2
  have hg2 := rnumber_any (e := e) hn (hx.below b2) h1 hp
  rw [hnum] at hg2
  dsimp only at hg2
  subst he
  obtain ⟨rfl, hpq, hqn, hN⟩ := number_ok hnum (by omega)
  rw [hn] at hqn
  have hcv : IntKind.u64.wrap most = most := by
    obtain ⟨m, rfl⟩ := Int.eq_ofNat_of_zero_le h0
    exact wrap_u64 (by omega)
  have h0' : decide (most < 0) = false := by simp; omega
  have hbig' : decide (most < (N : Int)) = true := by simp; omega
  clear hm1 hN
  have H0 := Lib.hid hn
  clear hnum hn
  unfold rdV gotV at hg2
  unfold rdV gotV
  go_enter Try.func15, Try.ntmps15
  go_wp2_with fail
  refine hg2.mono ?_
  rintro f w3 ⟨rfl, k3⟩
  have b3 := b2.trans (k3.mono b2.size)
  have hx3 := hx.below b3
  have hc3 := (k3.block _ (lt_of_heap hc2)).trans hc2
  have hd3 := (k3.block _ (lt_of_heap hd2)).trans hd2
  have hz3 : w.heap.size + 1 < w3.heap.size := lt_of_heap hd3
  have hz3' : w.heap.size < w3.heap.size := by omega
  clear hc2 hd2 hg2 k3 b2
  have c0 := cell_of hc3 0
  have c1 := cell_of hc3 1
  have c2 := cell_of hc3 2
  have d0 := free_of hd3 0
  have d1 := free_of hd3 1
  have d2 := free_of hd3 2
  have d3 := free_of hd3 3
  have d4 := free_of hd3 4
  have e0 := cell_of hd3 0
  have e1' := cell_of hd3 1
  have e2 := cell_of hd3 2
  have e3 := cell_of hd3 3
  have e4 := cell_of hd3 4
  have b4 := b3.alloc b3.size (.cells #[.slice a n c, .int .i64 q, .int .i64 0, .int .u64 N, .slice none 0 0] 33)
  have hd4 : (w3.alloc (.cells #[.slice a n c, .int .i64 q, .int .i64 0, .int .u64 N, .slice none 0 0] 33)).heap[w.heap.size + 1]? = _ := new_of hd3 _
  have hb := bad_any (w := (w3.alloc (.cells #[.slice a n c, .int .i64 q, .int .i64 0, .int .u64 N, .slice none 0 0] 33))) (a := a) (n := n) (c := c) (p := p) (q := 0) (e := 4)
  unfold rdV gotV at hb
  go_wp2_with fail
  refine hb.mono ?_
  rintro f w5 ⟨rfl, k5⟩
  have b5 := b4.trans (k5.mono b4.size)
  have hd5 := (k5.block _ (lt_of_heap hd4)).trans hd4
  have hz5 : w.heap.size + 1 < w5.heap.size := lt_of_heap hd5
  clear k5 hb hd4 hd3 hc3 c0 c1 c2 d0 d1 d2 d3 d4 e0 e1' e2 e3 e4 hz3 hz3'
  have d0 := free_of hd5 0
  have d1 := free_of hd5 1
  have d2 := free_of hd5 2
  have d3 := free_of hd5 3
  have d4 := free_of hd5 4
  have e0 := cell_of hd5 0
  have e1 := cell_of hd5 1
  have e2 := cell_of hd5 2
  have e3 := cell_of hd5 3
  have e4 := cell_of hd5 4
  go_wp2_with fail
  refine bodyPost_ret (v := .agg #[.slice a n c, .int .i64 p, .int .i64 4, .int .u64 0, .slice none 0 0]) (by simp [results, Try.results15, go_sem, *]) rfl ⟨rfl, ?_⟩
  iterate 5 refine Below.setCell ?_ (by simp) _
  exact b5

set_option maxRecDepth 100000 in
set_option maxHeartbeats 4000000 in
theorem rframe_big0 {w : World} {a : Option Addr} {n c p e q e1 N : Nat} {most : Int} {L : List Nat} (hn : L.length = n) (hx : Bs w (.slice a n c) L) (h1 : n < 1000000) (hp : p ≤ n) (hnum : number L p e = (q, e1, N)) (he : e1 = 0) (h0 : most < 0) (hbig : 0 < N) :
    Calls Try.prog 15 #[rdV a n c p e, .int .i64 most] w fun f w' => f = .returned (gotV a n c p 4 0 (.slice none 0 0)) ∧ Below w.heap.size w w' := by
  have b2 : Below w.heap.size w ((w.alloc (.cells #[.slice a n c, .int .i64 p, .int .i64 e] 28)).alloc (.cells #[.slice none 0 0, .int .i64 0, .int .i64 0, .int .u64 0, .slice none 0 0] 33)) := ((Below.refl _ w).alloc (Nat.le_refl _) _).alloc (by simp) _
  have hc2 : ((w.alloc (.cells #[.slice a n c, .int .i64 p, .int .i64 e] 28)).alloc (.cells #[.slice none 0 0, .int .i64 0, .int .i64 0, .int .u64 0, .slice none 0 0] 33)).heap[w.heap.size]? = some (.cells #[.slice a n c, .int .i64 p, .int .i64 e] 28 (0, 0)) := new_of (World.alloc_heap_new w _) _
  have hd2 := World.alloc_heap_new (w.alloc (.cells #[.slice a n c, .int .i64 p, .int .i64 e] 28)) (.cells #[.slice none 0 0, .int .i64 0, .int .i64 0, .int .u64 0, .slice none 0 0] 33)
  rw [World.size_alloc] at hd2
  have hg2 := rnumber_any (e := e) hn (hx.below b2) h1 hp
  rw [hnum] at hg2
  dsimp only at hg2
  subst he
  obtain ⟨rfl, hpq, hqn, hN⟩ := number_ok hnum (by omega)
  rw [hn] at hqn
  have hbig' : decide ((0 : Int) < (N : Int)) = true := by simp; omega
  have hbig'' : decide (0 < N) = true := by simp; omega
  clear hN
  have H0 := Lib.hid hn
  clear hnum hn
  unfold rdV gotV at hg2
  unfold rdV gotV
  go_enter Try.func15, Try.ntmps15
  go_wp2_with fail
  refine hg2.mono ?_
  rintro f w3 ⟨rfl, k3⟩
  have b3 := b2.trans (k3.mono b2.size)
  have hx3 := hx.below b3
  have hc3 := (k3.block _ (lt_of_heap hc2)).trans hc2
  have hd3 := (k3.block _ (lt_of_heap hd2)).trans hd2
  have hz3 : w.heap.size + 1 < w3.heap.size := lt_of_heap hd3
  have hz3' : w.heap.size < w3.heap.size := by omega
  clear hc2 hd2 hg2 k3 b2
  have c0 := cell_of hc3 0
  have c1 := cell_of hc3 1
  have c2 := cell_of hc3 2
  have d0 := free_of hd3 0
  have d1 := free_of hd3 1
  have d2 := free_of hd3 2
  have d3 := free_of hd3 3
  have d4 := free_of hd3 4
  have e0 := cell_of hd3 0
  have e1' := cell_of hd3 1
  have e2 := cell_of hd3 2
  have e3 := cell_of hd3 3
  have e4 := cell_of hd3 4
  have b4 := b3.alloc b3.size (.cells #[.slice a n c, .int .i64 q, .int .i64 0, .int .u64 N, .slice none 0 0] 33)
  have hd4 : (w3.alloc (.cells #[.slice a n c, .int .i64 q, .int .i64 0, .int .u64 N, .slice none 0 0] 33)).heap[w.heap.size + 1]? = _ := new_of hd3 _
  have hb := bad_any (w := (w3.alloc (.cells #[.slice a n c, .int .i64 q, .int .i64 0, .int .u64 N, .slice none 0 0] 33))) (a := a) (n := n) (c := c) (p := p) (q := 0) (e := 4)
  unfold rdV gotV at hb
  go_wp2_with fail
  refine hb.mono ?_
  rintro f w5 ⟨rfl, k5⟩
  have b5 := b4.trans (k5.mono b4.size)
  have hd5 := (k5.block _ (lt_of_heap hd4)).trans hd4
  have hz5 : w.heap.size + 1 < w5.heap.size := lt_of_heap hd5
  clear k5 hb hd4 hd3 hc3 c0 c1 c2 d0 d1 d2 d3 d4 e0 e1' e2 e3 e4 hz3 hz3'
  have d0 := free_of hd5 0
  have d1 := free_of hd5 1
  have d2 := free_of hd5 2
  have d3 := free_of hd5 3
  have d4 := free_of hd5 4
  have e0 := cell_of hd5 0
  have e1 := cell_of hd5 1
  have e2 := cell_of hd5 2
  have e3 := cell_of hd5 3
  have e4 := cell_of hd5 4
  go_wp2_with fail
  refine bodyPost_ret (v := .agg #[.slice a n c, .int .i64 p, .int .i64 4, .int .u64 0, .slice none 0 0]) (by simp [results, Try.results15, go_sem, *]) rfl ⟨rfl, ?_⟩
  iterate 5 refine Below.setCell ?_ (by simp) _
  exact b5

set_option maxRecDepth 100000 in
set_option maxHeartbeats 4000000 in
theorem rframe_short {w : World} {a : Option Addr} {n c p e q e1 N : Nat} {most : Int} {L : List Nat} (hn : L.length = n) (hx : Bs w (.slice a n c) L) (h1 : n < 1000000) (hp : p ≤ n) (hnum : number L p e = (q, e1, N)) (he : e1 = 0) (h0 : 0 ≤ most) (hm1 : most ≤ 9223372036854775807) (hbig : (N : Int) ≤ most) (hs : n - q < N) :
    Calls Try.prog 15 #[rdV a n c p e, .int .i64 most] w fun f w' => f = .returned (gotV a n c p 2 0 (.slice none 0 0)) ∧ Below w.heap.size w w' := by
  have b2 : Below w.heap.size w ((w.alloc (.cells #[.slice a n c, .int .i64 p, .int .i64 e] 28)).alloc (.cells #[.slice none 0 0, .int .i64 0, .int .i64 0, .int .u64 0, .slice none 0 0] 33)) := ((Below.refl _ w).alloc (Nat.le_refl _) _).alloc (by simp) _
  have hc2 : ((w.alloc (.cells #[.slice a n c, .int .i64 p, .int .i64 e] 28)).alloc (.cells #[.slice none 0 0, .int .i64 0, .int .i64 0, .int .u64 0, .slice none 0 0] 33)).heap[w.heap.size]? = some (.cells #[.slice a n c, .int .i64 p, .int .i64 e] 28 (0, 0)) := new_of (World.alloc_heap_new w _) _
  have hd2 := World.alloc_heap_new (w.alloc (.cells #[.slice a n c, .int .i64 p, .int .i64 e] 28)) (.cells #[.slice none 0 0, .int .i64 0, .int .i64 0, .int .u64 0, .slice none 0 0] 33)
  rw [World.size_alloc] at hd2
  have hg2 := rnumber_any (e := e) hn (hx.below b2) h1 hp
  rw [hnum] at hg2
  dsimp only at hg2
  subst he
  obtain ⟨rfl, hpq, hqn, hN⟩ := number_ok hnum (by omega)
  rw [hn] at hqn
  have hcv : IntKind.u64.wrap most = most := by
    obtain ⟨m, rfl⟩ := Int.eq_ofNat_of_zero_le h0
    exact wrap_u64 (by omega)
  obtain ⟨rest, hrest⟩ : ∃ r : Nat, n - q = r := ⟨_, rfl⟩
  have hsub : (n : Int) - (q : Int) = (rest : Int) := by omega
  have hcv2 : IntKind.u64.wrap (rest : Int) = (rest : Int) := wrap_u64 (by omega)
  have h0' : decide (most < 0) = false := by simp; omega
  have hbig' : decide (most < (N : Int)) = false := by simp; omega
  have hs' : decide ((rest : Int) < (N : Int)) = true := by simp; omega
  have hs'' : decide (rest < N) = true := by simp; omega
  clear hm1 hN hrest
  have H0 := Lib.hid hn
  clear hnum hn
  unfold rdV gotV at hg2
  unfold rdV gotV
  go_enter Try.func15, Try.ntmps15
  go_wp2_with fail
  refine hg2.mono ?_
  rintro f w3 ⟨rfl, k3⟩
  have b3 := b2.trans (k3.mono b2.size)
  have hx3 := hx.below b3
  have hc3 := (k3.block _ (lt_of_heap hc2)).trans hc2
  have hd3 := (k3.block _ (lt_of_heap hd2)).trans hd2
  have hz3 : w.heap.size + 1 < w3.heap.size := lt_of_heap hd3
  have hz3' : w.heap.size < w3.heap.size := by omega
  clear hc2 hd2 hg2 k3 b2
  have c0 := cell_of hc3 0
  have c1 := cell_of hc3 1
  have c2 := cell_of hc3 2
  have d0 := free_of hd3 0
  have d1 := free_of hd3 1
  have d2 := free_of hd3 2
  have d3 := free_of hd3 3
  have d4 := free_of hd3 4
  have e0 := cell_of hd3 0
  have e1' := cell_of hd3 1
  have e2 := cell_of hd3 2
  have e3 := cell_of hd3 3
  have e4 := cell_of hd3 4
  have b4 := b3.alloc b3.size (.cells #[.slice a n c, .int .i64 q, .int .i64 0, .int .u64 N, .slice none 0 0] 33)
  have hd4 : (w3.alloc (.cells #[.slice a n c, .int .i64 q, .int .i64 0, .int .u64 N, .slice none 0 0] 33)).heap[w.heap.size + 1]? = _ := new_of hd3 _
  have hb := bad_any (w := (w3.alloc (.cells #[.slice a n c, .int .i64 q, .int .i64 0, .int .u64 N, .slice none 0 0] 33))) (a := a) (n := n) (c := c) (p := p) (q := 0) (e := 2)
  unfold rdV gotV at hb
  go_wp2_with fail
  refine hb.mono ?_
  rintro f w5 ⟨rfl, k5⟩
  have b5 := b4.trans (k5.mono b4.size)
  have hd5 := (k5.block _ (lt_of_heap hd4)).trans hd4
  have hz5 : w.heap.size + 1 < w5.heap.size := lt_of_heap hd5
  clear k5 hb hd4 hd3 hc3 c0 c1 c2 d0 d1 d2 d3 d4 e0 e1' e2 e3 e4 hz3 hz3'
  have d0 := free_of hd5 0
  have d1 := free_of hd5 1
  have d2 := free_of hd5 2
  have d3 := free_of hd5 3
  have d4 := free_of hd5 4
  have e0 := cell_of hd5 0
  have e1 := cell_of hd5 1
  have e2 := cell_of hd5 2
  have e3 := cell_of hd5 3
  have e4 := cell_of hd5 4
  go_wp2_with fail
  refine bodyPost_ret (v := .agg #[.slice a n c, .int .i64 p, .int .i64 2, .int .u64 0, .slice none 0 0]) (by simp [results, Try.results15, go_sem, *]) rfl ⟨rfl, ?_⟩
  iterate 5 refine Below.setCell ?_ (by simp) _
  exact b5

set_option maxRecDepth 100000 in
set_option maxHeartbeats 4000000 in
theorem rframe_take {w : World} {a : Option Addr} {n c p e q e1 N : Nat} {most : Int} {L : List Nat} (hn : L.length = n) (hx : Bs w (.slice a n c) L) (h1 : n < 1000000) (hp : p ≤ n) (hnum : number L p e = (q, e1, N)) (he : e1 = 0) (h0 : 0 ≤ most) (hm1 : most ≤ 9223372036854775807) (hbig : (N : Int) ≤ most) (hs : N ≤ n - q) {T : Nat × Nat × List Nat} (hT : take L q 0 N = T) :
    Calls Try.prog 15 #[rdV a n c p e, .int .i64 most] w fun f w' => ∃ a' N' c', f = .returned (gotV a n c T.1 T.2.1 0 (.slice a' N' c')) ∧ (∀ wx, Bs wx (.slice a n c) L → Bs wx (.slice a' N' c') T.2.2) ∧ Below w.heap.size w w' := by
  have b2 : Below w.heap.size w ((w.alloc (.cells #[.slice a n c, .int .i64 p, .int .i64 e] 28)).alloc (.cells #[.slice none 0 0, .int .i64 0, .int .i64 0, .int .u64 0, .slice none 0 0] 33)) := ((Below.refl _ w).alloc (Nat.le_refl _) _).alloc (by simp) _
  have hc2 : ((w.alloc (.cells #[.slice a n c, .int .i64 p, .int .i64 e] 28)).alloc (.cells #[.slice none 0 0, .int .i64 0, .int .i64 0, .int .u64 0, .slice none 0 0] 33)).heap[w.heap.size]? = some (.cells #[.slice a n c, .int .i64 p, .int .i64 e] 28 (0, 0)) := new_of (World.alloc_heap_new w _) _
  have hd2 := World.alloc_heap_new (w.alloc (.cells #[.slice a n c, .int .i64 p, .int .i64 e] 28)) (.cells #[.slice none 0 0, .int .i64 0, .int .i64 0, .int .u64 0, .slice none 0 0] 33)
  rw [World.size_alloc] at hd2
  have hg2 := rnumber_any (e := e) hn (hx.below b2) h1 hp
  rw [hnum] at hg2
  dsimp only at hg2
  subst he
  obtain ⟨rfl, hpq, hqn, hN⟩ := number_ok hnum (by omega)
  rw [hn] at hqn
  have hcv : IntKind.u64.wrap most = most := by
    obtain ⟨m, rfl⟩ := Int.eq_ofNat_of_zero_le h0
    exact wrap_u64 (by omega)
  obtain ⟨rest, hrest⟩ : ∃ r : Nat, n - q = r := ⟨_, rfl⟩
  have hsub : (n : Int) - (q : Int) = (rest : Int) := by omega
  have hcv2 : IntKind.u64.wrap (rest : Int) = (rest : Int) := wrap_u64 (by omega)
  have hcv3 : IntKind.i64.wrap (N : Int) = (N : Int) := IntWalk.i64_in _ (by omega)
  have h0' : decide (most < 0) = false := by simp; omega
  have hbig' : decide (most < (N : Int)) = false := by simp; omega
  have hs' : decide ((rest : Int) < (N : Int)) = false := by simp; omega
  have hs'' : decide (rest < N) = false := by simp; omega
  clear hm1 hN hrest
  have H0 := Lib.hid hn
  clear hnum hn
  unfold rdV gotV at hg2
  unfold rdV gotV
  go_enter Try.func15, Try.ntmps15
  go_wp2_with fail
  refine hg2.mono ?_
  rintro f w3 ⟨rfl, k3⟩
  have b3 := b2.trans (k3.mono b2.size)
  have hx3 := hx.below b3
  have hc3 := (k3.block _ (lt_of_heap hc2)).trans hc2
  have hd3 := (k3.block _ (lt_of_heap hd2)).trans hd2
  have hz3 : w.heap.size + 1 < w3.heap.size := lt_of_heap hd3
  have hz3' : w.heap.size < w3.heap.size := by omega
  clear hc2 hd2 hg2 k3 b2
  have c0 := cell_of hc3 0
  have c1 := cell_of hc3 1
  have c2 := cell_of hc3 2
  have d0 := free_of hd3 0
  have d1 := free_of hd3 1
  have d2 := free_of hd3 2
  have d3 := free_of hd3 3
  have d4 := free_of hd3 4
  have e0 := cell_of hd3 0
  have e1' := cell_of hd3 1
  have e2 := cell_of hd3 2
  have e3 := cell_of hd3 3
  have e4 := cell_of hd3 4
  have b4 := b3.alloc b3.size (.cells #[.slice a n c, .int .i64 q, .int .i64 0, .int .u64 N, .slice none 0 0] 33)
  have hd4 : (w3.alloc (.cells #[.slice a n c, .int .i64 q, .int .i64 0, .int .u64 N, .slice none 0 0] 33)).heap[w.heap.size + 1]? = _ := new_of hd3 _
  have hb := rtake_any (w := (w3.alloc (.cells #[.slice a n c, .int .i64 q, .int .i64 0, .int .u64 N, .slice none 0 0] 33))) (e := 0) (m := (N : Int)) H0.out (hx.below b4) h1 hqn
  rw [hT] at hb
  clear hT
  unfold rdV gotV at hb
  go_wp2_with fail
  refine hb.mono ?_
  rintro f w5 ⟨a', N', c', rfl, hT5, k5⟩
  have HT := Lib.hid hT5
  clear hT5
  have b5 := b4.trans (k5.mono b4.size)
  have hd5 := (k5.block _ (lt_of_heap hd4)).trans hd4
  have hz5 : w.heap.size + 1 < w5.heap.size := lt_of_heap hd5
  clear k5 hb hd4 hd3 hc3 c0 c1 c2 d0 d1 d2 d3 d4 e0 e1' e2 e3 e4 hz3 hz3'
  have d0 := free_of hd5 0
  have d1 := free_of hd5 1
  have d2 := free_of hd5 2
  have d3 := free_of hd5 3
  have d4 := free_of hd5 4
  have e0 := cell_of hd5 0
  have e1 := cell_of hd5 1
  have e2 := cell_of hd5 2
  have e3 := cell_of hd5 3
  have e4 := cell_of hd5 4
  go_wp2_with fail
  refine bodyPost_ret (v := .agg #[.slice a n c, .int .i64 T.1, .int .i64 T.2.1, .int .u64 0, .slice a' N' c']) (by simp [results, Try.results15, go_sem, *]) rfl ⟨a', N', c', rfl, HT.out, ?_⟩
  iterate 5 refine Below.setCell ?_ (by simp) _
  exact b5

set_option maxRecDepth 100000 in
set_option maxHeartbeats 4000000 in
theorem rframe_take0 {w : World} {a : Option Addr} {n c p e q e1 N : Nat} {most : Int} {L : List Nat} (hn : L.length = n) (hx : Bs w (.slice a n c) L) (h1 : n < 1000000) (hp : p ≤ n) (hnum : number L p e = (q, e1, N)) (he : e1 = 0) (h0 : most < 0) (hs : N = 0) {T : Nat × Nat × List Nat} (hT : take L q 0 N = T) :
    Calls Try.prog 15 #[rdV a n c p e, .int .i64 most] w fun f w' => ∃ a' N' c', f = .returned (gotV a n c T.1 T.2.1 0 (.slice a' N' c')) ∧ (∀ wx, Bs wx (.slice a n c) L → Bs wx (.slice a' N' c') T.2.2) ∧ Below w.heap.size w w' := by
  have b2 : Below w.heap.size w ((w.alloc (.cells #[.slice a n c, .int .i64 p, .int .i64 e] 28)).alloc (.cells #[.slice none 0 0, .int .i64 0, .int .i64 0, .int .u64 0, .slice none 0 0] 33)) := ((Below.refl _ w).alloc (Nat.le_refl _) _).alloc (by simp) _
  have hc2 : ((w.alloc (.cells #[.slice a n c, .int .i64 p, .int .i64 e] 28)).alloc (.cells #[.slice none 0 0, .int .i64 0, .int .i64 0, .int .u64 0, .slice none 0 0] 33)).heap[w.heap.size]? = some (.cells #[.slice a n c, .int .i64 p, .int .i64 e] 28 (0, 0)) := new_of (World.alloc_heap_new w _) _
  have hd2 := World.alloc_heap_new (w.alloc (.cells #[.slice a n c, .int .i64 p, .int .i64 e] 28)) (.cells #[.slice none 0 0, .int .i64 0, .int .i64 0, .int .u64 0, .slice none 0 0] 33)
  rw [World.size_alloc] at hd2
  have hg2 := rnumber_any (e := e) hn (hx.below b2) h1 hp
  rw [hnum] at hg2
  dsimp only at hg2
  subst he
  obtain ⟨rfl, hpq, hqn, hN⟩ := number_ok hnum (by omega)
  rw [hn] at hqn
  have HS := Lib.hid hs
  obtain ⟨rest, hrest⟩ : ∃ r : Nat, n - q = r := ⟨_, rfl⟩
  have hsub : (n : Int) - (q : Int) = (rest : Int) := by omega
  have hcv2 : IntKind.u64.wrap (rest : Int) = (rest : Int) := wrap_u64 (by omega)
  have hcv3 : IntKind.i64.wrap (N : Int) = (N : Int) := IntWalk.i64_in _ (by omega)
  have h0' : decide (most < 0) = true := by simp; omega
  have hn0 : decide ((0 : Int) < (N : Int)) = false := by simp; omega
  have hn0' : decide (0 < N) = false := by simp; omega
  have hs' : decide ((rest : Int) < (N : Int)) = false := by simp; omega
  have hs'' : decide (rest < N) = false := by simp; omega
  clear hN hrest hs
  have H0 := Lib.hid hn
  clear hnum hn
  unfold rdV gotV at hg2
  unfold rdV gotV
  go_enter Try.func15, Try.ntmps15
  go_wp2_with fail
  refine hg2.mono ?_
  rintro f w3 ⟨rfl, k3⟩
  have b3 := b2.trans (k3.mono b2.size)
  have hx3 := hx.below b3
  have hc3 := (k3.block _ (lt_of_heap hc2)).trans hc2
  have hd3 := (k3.block _ (lt_of_heap hd2)).trans hd2
  have hz3 : w.heap.size + 1 < w3.heap.size := lt_of_heap hd3
  have hz3' : w.heap.size < w3.heap.size := by omega
  clear hc2 hd2 hg2 k3 b2
  have c0 := cell_of hc3 0
  have c1 := cell_of hc3 1
  have c2 := cell_of hc3 2
  have d0 := free_of hd3 0
  have d1 := free_of hd3 1
  have d2 := free_of hd3 2
  have d3 := free_of hd3 3
  have d4 := free_of hd3 4
  have e0 := cell_of hd3 0
  have e1' := cell_of hd3 1
  have e2 := cell_of hd3 2
  have e3 := cell_of hd3 3
  have e4 := cell_of hd3 4
  have b4 := b3.alloc b3.size (.cells #[.slice a n c, .int .i64 q, .int .i64 0, .int .u64 N, .slice none 0 0] 33)
  have hd4 : (w3.alloc (.cells #[.slice a n c, .int .i64 q, .int .i64 0, .int .u64 N, .slice none 0 0] 33)).heap[w.heap.size + 1]? = _ := new_of hd3 _
  have hb := rtake_any (w := (w3.alloc (.cells #[.slice a n c, .int .i64 q, .int .i64 0, .int .u64 N, .slice none 0 0] 33))) (e := 0) (m := (N : Int)) H0.out (hx.below b4) h1 hqn
  rw [hT] at hb
  clear hT
  unfold rdV gotV at hb
  go_wp2_with fail
  refine hb.mono ?_
  rintro f w5 ⟨a', N', c', rfl, hT5, k5⟩
  have HT := Lib.hid hT5
  clear hT5
  have b5 := b4.trans (k5.mono b4.size)
  have hd5 := (k5.block _ (lt_of_heap hd4)).trans hd4
  have hz5 : w.heap.size + 1 < w5.heap.size := lt_of_heap hd5
  clear k5 hb hd4 hd3 hc3 c0 c1 c2 d0 d1 d2 d3 d4 e0 e1' e2 e3 e4 hz3 hz3'
  have d0 := free_of hd5 0
  have d1 := free_of hd5 1
  have d2 := free_of hd5 2
  have d3 := free_of hd5 3
  have d4 := free_of hd5 4
  have e0 := cell_of hd5 0
  have e1 := cell_of hd5 1
  have e2 := cell_of hd5 2
  have e3 := cell_of hd5 3
  have e4 := cell_of hd5 4
  go_wp2_with fail
  refine bodyPost_ret (v := .agg #[.slice a n c, .int .i64 T.1, .int .i64 T.2.1, .int .u64 0, .slice a' N' c']) (by simp [results, Try.results15, go_sem, *]) rfl ⟨a', N', c', rfl, HT.out, ?_⟩
  iterate 5 refine Below.setCell ?_ (by simp) _
  exact b5

/-- Frame, whatever the reader and the bound. -/
theorem rframe_any {w : World} {a : Option Addr} {n c p e : Nat} {most : Int} {L : List Nat} (hn : L.length = n) (hx : Bs w (.slice a n c) L) (h1 : n < 1000000) (hp : p ≤ n) (hm : most ≤ 9223372036854775807) :
    Calls Try.prog 15 #[rdV a n c p e, .int .i64 most] w fun f w' => ∃ a' N' c', f = .returned (gotV a n c (frame L p e most).1 (frame L p e most).2.1 0 (.slice a' N' c')) ∧ (∀ wx, Bs wx (.slice a n c) L → Bs wx (.slice a' N' c') (frame L p e most).2.2) ∧ Below w.heap.size w w' := by
  obtain ⟨q, e1, N, hnum⟩ : ∃ q e1 N, number L p e = (q, e1, N) := ⟨_, _, _, rfl⟩
  have hfr : frame L p e most = if e1 ≠ 0 then (q, e1, []) else if most.toNat < N then (p, 4, []) else if L.length - q < N then (p, 2, []) else take L q 0 N := by
    unfold frame
    rw [hnum]
  by_cases he : e1 ≠ 0
  · rw [if_pos he] at hfr
    obtain ⟨rfl, _⟩ := number_err hnum he
    rw [hfr]
    refine (rframe_err hn hx h1 hp hnum he).mono fun f w' => ?_
    rintro ⟨rfl, b⟩
    exact ⟨none, 0, 0, rfl, fun _ _ => Bs.nil _, b⟩
  · rw [if_neg he] at hfr
    have he0 : e1 = 0 := by omega
    by_cases hb : most.toNat < N
    · rw [if_pos hb] at hfr
      rw [hfr]
      by_cases h0 : 0 ≤ most
      · refine (rframe_big hn hx h1 hp hnum he0 h0 hm (by omega)).mono fun f w' => ?_
        rintro ⟨rfl, b⟩
        exact ⟨none, 0, 0, rfl, fun _ _ => Bs.nil _, b⟩
      · refine (rframe_big0 hn hx h1 hp hnum he0 (by omega) (by omega)).mono fun f w' => ?_
        rintro ⟨rfl, b⟩
        exact ⟨none, 0, 0, rfl, fun _ _ => Bs.nil _, b⟩
    · rw [if_neg hb] at hfr
      by_cases hs : L.length - q < N
      · rw [if_pos hs] at hfr
        rw [hfr]
        refine (rframe_short hn hx h1 hp hnum he0 (by omega) hm (by omega) (by omega)).mono fun f w' => ?_
        rintro ⟨rfl, b⟩
        exact ⟨none, 0, 0, rfl, fun _ _ => Bs.nil _, b⟩
      · rw [if_neg hs] at hfr
        by_cases h0 : 0 ≤ most
        · exact rframe_take hn hx h1 hp hnum he0 h0 hm (by omega) (by omega) hfr.symm
        · exact rframe_take0 hn hx h1 hp hnum he0 (by omega) (by omega) hfr.symm
end Go.Proofs.Ytkbdahbnjklkoaa.Frm
