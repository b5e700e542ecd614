/- Contracts of meter's Take, Give and the four tellers, for one goroutine. Nothing is claimed here. -/
import Derived.Test.YtnejgdbmjnhfiaaTally
import Derived.WalkMore
import Derived.Deep.LoopGhost
namespace Go.Proofs.Ytnejgdbmjnhfiaa.Mtr
open Go.RowKit Kit

/-- What Take and Give leave: the answer, a meter that tells so much, and no other old block changed. -/
def Stepped (w : World) (bp : Nat) (lim u pk rf : Int) (b : Bool) (e : Ending) (w' : World) : Prop :=
  e = .returned (.bool b) ∧ ∃ bn, Mt w' bp bn lim u pk rf ∧ w.grownBy w' (some bp)

/-- What a step has made: a new tally, and the meter's pointer turned to it. -/
theorem stepped_mk {w w1 : World} {bp bt : Nat} {lim u pk rf u' pk' rf' : Int} (h : Mt w bp bt lim u pk rf) (hb : Below w.heap.size w w1) :
    Mt ((w1.setCell ⟨bp, 1, none⟩ (.pointer (some ⟨w1.heap.size, 0, none⟩))).alloc (.cells #[.int .i64 u', .int .i64 pk', .int .i64 rf'] 49)) bp w1.heap.size lim u' pk' rf' ∧
      w.grownBy ((w1.setCell ⟨bp, 1, none⟩ (.pointer (some ⟨w1.heap.size, 0, none⟩))).alloc (.cells #[.int .i64 u', .int .i64 pk', .int .i64 rf'] 49)) (some bp) := by
  have hbp : bp < w.heap.size := lt_of_heap h.mh
  have hz := hb.size
  have hs : (w1.setCell ⟨bp, 1, none⟩ (.pointer (some ⟨w1.heap.size, 0, none⟩))).heap.size = w1.heap.size := by simp [World.setCell]
  have hm : w1.heap[bp]? = some (.cells #[.int .i64 lim, .pointer (some ⟨bt, 0, none⟩)] 46 (0, 0)) := (hb.block bp hbp).trans h.mh
  refine ⟨⟨?_, ?_⟩, ⟨hb.os, hb.tape, hb.output, ?_, fun k hk hne => ?_⟩⟩
  · rw [Below.heap_alloc _ _ _ (by omega)]
    simp only [World.setCell, Array.getElem?_modify, if_true, hm]
    simp
  · show (Array.push _ _)[w1.heap.size]? = _
    rw [Array.getElem?_push, if_pos hs.symm]
  · simp [World.setCell]
    omega
  · rw [Below.heap_alloc _ _ _ (by omega), Below.heap_setCell _ _ _ _ (by intro e; exact hne (by rw [e]))]
    exact hb.block k hk

set_option maxHeartbeats 400000 in
theorem stepG_yes (bp bt c : Nat) (lim u pk rf n : Int) (w : World) (h : Mt w bp bt lim u pk rf) (cn : w.cell? ⟨c, 0, none⟩ = some (.int .i64 n)) (h0 : 0 ≤ n) (h1 : n ≤ u) (h2 : u ≤ 9223372036854775807) :
    Calls Try.prog 20 #[.pointer (some ⟨bp, 0, none⟩), .func (.func 21) #[] #[.pointer (some ⟨c, 0, none⟩)]] w (Stepped w bp lim (u - n) pk rf true) := by
  have hbp : bp < w.heap.size := lt_of_heap h.mh
  have hbt : bt < w.heap.size := lt_of_heap h.th
  have cl : w.cell? ⟨bp, 0, none⟩ = some (.int .i64 lim) := cell_of h.mh 0
  have t0 : w.cell? ⟨bt, 0, none⟩ = some (.int .i64 u) := cell_of h.th 0
  have t1 : w.cell? ⟨bt, 1, none⟩ = some (.int .i64 pk) := cell_of h.th 1
  have t2 : w.cell? ⟨bt, 2, none⟩ = some (.int .i64 rf) := cell_of h.th 2
  go_enter Try.func20, Try.ntmps20
  go_wp2_with fail
  go_step3
  go_wp2_with fail
  go_step3
  go_wp2_with fail
  refine wp_loop_rounds 1 ?_
  rw [rounds_succ]
  go_wp2_with (go_at_call 25; refine (load_any h).mono ?_; rintro e w' ⟨rfl, rfl⟩)
  refine (giveF_yes _ _ _ _ _ _ cn h0 h1 h2).mono ?_
  rintro e w1 ⟨rfl, hb⟩
  have hh := hb.block bp hbp
  have k1 : w1.cell? ⟨bp, 1, none⟩ = some (.pointer (some ⟨bt, 0, none⟩)) := cell_of (hh.trans h.mh) 1
  have z1 : w1.frozen? ⟨bp, 1, none⟩ = false := free_of (hh.trans h.mh) 1
  have kt : w1.cell? ⟨bt, 0, none⟩ = some (.int .i64 u) := cell_of ((hb.block bt hbt).trans h.th) 0
  have hz := hb.size
  clear hh cl t0 t1 t2
  go_wp2_with fail
  have kb : bp < w1.heap.size := by omega
  have ktb : bt < w1.heap.size := by omega
  refine (cas_any (v := .int .i64 u) (v' := .int .i64 (u - n)) (by go_simp) (by go_simp) (by go_simp) (by go_simp)).mono ?_
  rintro e w2 ⟨rfl, rfl⟩
  go_wp2
  rw [Exit.noGoto_ret]
  go_ret
  exact ⟨rfl, _, stepped_mk h hb⟩

set_option maxHeartbeats 400000 in
theorem stepG_no (bp bt c : Nat) (lim u pk rf n : Int) (w : World) (h : Mt w bp bt lim u pk rf) (cn : w.cell? ⟨c, 0, none⟩ = some (.int .i64 n)) (hq : n < 0 ∨ u < n) (h0 : 0 ≤ rf) (h1 : rf < 9223372036854775807) :
    Calls Try.prog 20 #[.pointer (some ⟨bp, 0, none⟩), .func (.func 21) #[] #[.pointer (some ⟨c, 0, none⟩)]] w (Stepped w bp lim u pk (rf + 1) false) := by
  have hbp : bp < w.heap.size := lt_of_heap h.mh
  have hbt : bt < w.heap.size := lt_of_heap h.th
  have cl : w.cell? ⟨bp, 0, none⟩ = some (.int .i64 lim) := cell_of h.mh 0
  have t0 : w.cell? ⟨bt, 0, none⟩ = some (.int .i64 u) := cell_of h.th 0
  have t1 : w.cell? ⟨bt, 1, none⟩ = some (.int .i64 pk) := cell_of h.th 1
  have t2 : w.cell? ⟨bt, 2, none⟩ = some (.int .i64 rf) := cell_of h.th 2
  go_enter Try.func20, Try.ntmps20
  go_wp2_with fail
  go_step3
  go_wp2_with fail
  go_step3
  go_wp2_with fail
  refine wp_loop_rounds 1 ?_
  rw [rounds_succ]
  go_wp2_with (go_at_call 25; refine (load_any h).mono ?_; rintro e w' ⟨rfl, rfl⟩)
  refine (giveF_no _ _ _ _ _ _ cn hq h0 h1).mono ?_
  rintro e w1 ⟨rfl, hb⟩
  have hh := hb.block bp hbp
  have k1 : w1.cell? ⟨bp, 1, none⟩ = some (.pointer (some ⟨bt, 0, none⟩)) := cell_of (hh.trans h.mh) 1
  have z1 : w1.frozen? ⟨bp, 1, none⟩ = false := free_of (hh.trans h.mh) 1
  have kt : w1.cell? ⟨bt, 0, none⟩ = some (.int .i64 u) := cell_of ((hb.block bt hbt).trans h.th) 0
  have hz := hb.size
  clear hh cl t0 t1 t2
  go_wp2_with fail
  have kb : bp < w1.heap.size := by omega
  have ktb : bt < w1.heap.size := by omega
  refine (cas_any (v := .int .i64 u) (v' := .int .i64 u) (by go_simp) (by go_simp) (by go_simp) (by go_simp)).mono ?_
  rintro e w2 ⟨rfl, rfl⟩
  go_wp2
  rw [Exit.noGoto_ret]
  go_ret
  exact ⟨rfl, _, stepped_mk h hb⟩

set_option maxHeartbeats 400000 in
theorem stepT_yes (bp bt c d : Nat) (lim u pk rf n : Int) (w : World) (h : Mt w bp bt lim u pk rf) (cn : w.cell? ⟨c, 0, none⟩ = some (.int .i64 n)) (cm : w.cell? ⟨d, 0, none⟩ = some (.pointer (some ⟨bp, 0, none⟩))) (hu : 0 ≤ u) (h0 : 0 ≤ n) (h1 : n ≤ lim - u) (h2 : lim ≤ 9223372036854775807) :
    Calls Try.prog 20 #[.pointer (some ⟨bp, 0, none⟩), .func (.func 23) #[] #[.pointer (some ⟨c, 0, none⟩), .pointer (some ⟨d, 0, none⟩)]] w (Stepped w bp lim (u + n) (max pk (u + n)) rf true) := by
  have hbp : bp < w.heap.size := lt_of_heap h.mh
  have hbt : bt < w.heap.size := lt_of_heap h.th
  have cl : w.cell? ⟨bp, 0, none⟩ = some (.int .i64 lim) := cell_of h.mh 0
  have t0 : w.cell? ⟨bt, 0, none⟩ = some (.int .i64 u) := cell_of h.th 0
  have t1 : w.cell? ⟨bt, 1, none⟩ = some (.int .i64 pk) := cell_of h.th 1
  have t2 : w.cell? ⟨bt, 2, none⟩ = some (.int .i64 rf) := cell_of h.th 2
  go_enter Try.func20, Try.ntmps20
  go_wp2_with fail
  go_step3
  go_wp2_with fail
  go_step3
  go_wp2_with fail
  refine wp_loop_rounds 1 ?_
  rw [rounds_succ]
  go_wp2_with (go_at_call 25; refine (load_any h).mono ?_; rintro e w' ⟨rfl, rfl⟩)
  refine (takeF_yes _ _ _ _ _ _ _ _ _ cn cm cl hu h0 h1 h2).mono ?_
  rintro e w1 ⟨rfl, hb⟩
  have hh := hb.block bp hbp
  have k1 : w1.cell? ⟨bp, 1, none⟩ = some (.pointer (some ⟨bt, 0, none⟩)) := cell_of (hh.trans h.mh) 1
  have z1 : w1.frozen? ⟨bp, 1, none⟩ = false := free_of (hh.trans h.mh) 1
  have kt : w1.cell? ⟨bt, 0, none⟩ = some (.int .i64 u) := cell_of ((hb.block bt hbt).trans h.th) 0
  have hz := hb.size
  clear hh cl t0 t1 t2
  go_wp2_with fail
  have kb : bp < w1.heap.size := by omega
  have ktb : bt < w1.heap.size := by omega
  refine (cas_any (v := .int .i64 u) (v' := .int .i64 (u + n)) (by go_simp) (by go_simp) (by go_simp) (by go_simp)).mono ?_
  rintro e w2 ⟨rfl, rfl⟩
  go_wp2
  rw [Exit.noGoto_ret]
  go_ret
  exact ⟨rfl, _, stepped_mk h hb⟩

set_option maxHeartbeats 400000 in
theorem stepT_no (bp bt c d : Nat) (lim u pk rf n : Int) (w : World) (h : Mt w bp bt lim u pk rf) (cn : w.cell? ⟨c, 0, none⟩ = some (.int .i64 n)) (cm : w.cell? ⟨d, 0, none⟩ = some (.pointer (some ⟨bp, 0, none⟩))) (hu : 0 ≤ u) (hl : u ≤ lim) (hq : n < 0 ∨ lim - u < n) (h2 : lim ≤ 9223372036854775807) (h0 : 0 ≤ rf) (h1 : rf < 9223372036854775807) :
    Calls Try.prog 20 #[.pointer (some ⟨bp, 0, none⟩), .func (.func 23) #[] #[.pointer (some ⟨c, 0, none⟩), .pointer (some ⟨d, 0, none⟩)]] w (Stepped w bp lim u pk (rf + 1) false) := by
  have hbp : bp < w.heap.size := lt_of_heap h.mh
  have hbt : bt < w.heap.size := lt_of_heap h.th
  have cl : w.cell? ⟨bp, 0, none⟩ = some (.int .i64 lim) := cell_of h.mh 0
  have t0 : w.cell? ⟨bt, 0, none⟩ = some (.int .i64 u) := cell_of h.th 0
  have t1 : w.cell? ⟨bt, 1, none⟩ = some (.int .i64 pk) := cell_of h.th 1
  have t2 : w.cell? ⟨bt, 2, none⟩ = some (.int .i64 rf) := cell_of h.th 2
  go_enter Try.func20, Try.ntmps20
  go_wp2_with fail
  go_step3
  go_wp2_with fail
  go_step3
  go_wp2_with fail
  refine wp_loop_rounds 1 ?_
  rw [rounds_succ]
  go_wp2_with (go_at_call 25; refine (load_any h).mono ?_; rintro e w' ⟨rfl, rfl⟩)
  refine (takeF_no _ _ _ _ _ _ _ _ _ cn cm cl hu hl hq h2 h0 h1).mono ?_
  rintro e w1 ⟨rfl, hb⟩
  have hh := hb.block bp hbp
  have k1 : w1.cell? ⟨bp, 1, none⟩ = some (.pointer (some ⟨bt, 0, none⟩)) := cell_of (hh.trans h.mh) 1
  have z1 : w1.frozen? ⟨bp, 1, none⟩ = false := free_of (hh.trans h.mh) 1
  have kt : w1.cell? ⟨bt, 0, none⟩ = some (.int .i64 u) := cell_of ((hb.block bt hbt).trans h.th) 0
  have hz := hb.size
  clear hh cl t0 t1 t2
  go_wp2_with fail
  have kb : bp < w1.heap.size := by omega
  have ktb : bt < w1.heap.size := by omega
  refine (cas_any (v := .int .i64 u) (v' := .int .i64 u) (by go_simp) (by go_simp) (by go_simp) (by go_simp)).mono ?_
  rintro e w2 ⟨rfl, rfl⟩
  go_wp2
  rw [Exit.noGoto_ret]
  go_ret
  exact ⟨rfl, _, stepped_mk h hb⟩


theorem Mt.alloc {w : World} {bp bt : Nat} {lim u pk rf : Int} (h : Mt w bp bt lim u pk rf) (o : Obj) : Mt (w.alloc o) bp bt lim u pk rf :=
  ⟨(Below.heap_alloc _ _ _ (lt_of_heap h.mh)).trans h.mh, (Below.heap_alloc _ _ _ (lt_of_heap h.th)).trans h.th⟩
theorem Stepped.of_alloc {w : World} {bp : Nat} {lim u pk rf : Int} {b : Bool} {e : Ending} {w' : World} {o : Obj} (h : Stepped (w.alloc o) bp lim u pk rf b e w') : Stepped w bp lim u pk rf b e w' := by
  obtain ⟨he, bn, hm, hg⟩ := h
  exact ⟨he, bn, hm, hg.os, hg.tape, hg.output, Nat.le_trans (by simp) hg.size, fun k hk hne => (hg.block k (by simp; omega) hne).trans (Below.heap_alloc _ _ _ hk)⟩

set_option maxHeartbeats 400000 in
theorem mGive_yes (bp bt : Nat) (lim u pk rf n : Int) (w : World) (h : Mt w bp bt lim u pk rf) (h0 : 0 ≤ n) (h1 : n ≤ u) (h2 : u ≤ 9223372036854775807) :
    Calls Try.prog 12 #[.pointer (some ⟨bp, 0, none⟩), .int .i64 n] w (Stepped w bp lim (u - n) pk rf true) := by
  go_enter Try.func12, Try.ntmps12
  go_wp2_with fail
  refine (stepG_yes _ _ _ _ _ _ _ _ _ (h.alloc _) (by go_simp) h0 h1 h2).mono ?_
  intro e w' hs
  have hs1 := hs.of_alloc
  clear hs
  obtain ⟨rfl, hs2⟩ := hs1
  have H2 := Lib.hid hs2
  clear hs2
  go_wp2
  go_ret
  exact ⟨rfl, H2.out⟩

set_option maxHeartbeats 400000 in
theorem mGive_no (bp bt : Nat) (lim u pk rf n : Int) (w : World) (h : Mt w bp bt lim u pk rf) (hq : n < 0 ∨ u < n) (h0 : 0 ≤ rf) (h1 : rf < 9223372036854775807) :
    Calls Try.prog 12 #[.pointer (some ⟨bp, 0, none⟩), .int .i64 n] w (Stepped w bp lim u pk (rf + 1) false) := by
  go_enter Try.func12, Try.ntmps12
  go_wp2_with fail
  refine (stepG_no _ _ _ _ _ _ _ _ _ (h.alloc _) (by go_simp) hq h0 h1).mono ?_
  intro e w' hs
  have hs1 := hs.of_alloc
  clear hs
  obtain ⟨rfl, hs2⟩ := hs1
  have H2 := Lib.hid hs2
  clear hs2
  go_wp2
  go_ret
  exact ⟨rfl, H2.out⟩

set_option maxHeartbeats 400000 in
theorem mTake_yes (bp bt : Nat) (lim u pk rf n : Int) (w : World) (h : Mt w bp bt lim u pk rf) (hu : 0 ≤ u) (h0 : 0 ≤ n) (h1 : n ≤ lim - u) (h2 : lim ≤ 9223372036854775807) :
    Calls Try.prog 14 #[.pointer (some ⟨bp, 0, none⟩), .int .i64 n] w (Stepped w bp lim (u + n) (max pk (u + n)) rf true) := by
  go_enter Try.func14, Try.ntmps14
  go_wp2_with fail
  refine (stepT_yes _ _ _ _ _ _ _ _ _ _ ((h.alloc _).alloc _) (by go_simp) (by go_simp) hu h0 h1 h2).mono ?_
  intro e w' hs
  have hs1 := hs.of_alloc.of_alloc
  clear hs
  obtain ⟨rfl, hs2⟩ := hs1
  have H2 := Lib.hid hs2
  clear hs2
  go_wp2
  go_ret
  exact ⟨rfl, H2.out⟩

set_option maxHeartbeats 400000 in
theorem mTake_no (bp bt : Nat) (lim u pk rf n : Int) (w : World) (h : Mt w bp bt lim u pk rf) (hu : 0 ≤ u) (hl : u ≤ lim) (hq : n < 0 ∨ lim - u < n) (h2 : lim ≤ 9223372036854775807) (h0 : 0 ≤ rf) (h1 : rf < 9223372036854775807) :
    Calls Try.prog 14 #[.pointer (some ⟨bp, 0, none⟩), .int .i64 n] w (Stepped w bp lim u pk (rf + 1) false) := by
  go_enter Try.func14, Try.ntmps14
  go_wp2_with fail
  refine (stepT_no _ _ _ _ _ _ _ _ _ _ ((h.alloc _).alloc _) (by go_simp) (by go_simp) hu hl hq h2 h0 h1).mono ?_
  intro e w' hs
  have hs1 := hs.of_alloc.of_alloc
  clear hs
  obtain ⟨rfl, hs2⟩ := hs1
  have H2 := Lib.hid hs2
  clear hs2
  go_wp2
  go_ret
  exact ⟨rfl, H2.out⟩

theorem mUsed (bp bt : Nat) (lim u pk rf : Int) (w : World) (h : Mt w bp bt lim u pk rf) :
    Calls Try.prog 15 #[.pointer (some ⟨bp, 0, none⟩)] w fun e w' => e = .returned (.int .i64 u) ∧ w = w' := by
  have t0 : w.cell? ⟨bt, 0, none⟩ = some (.int .i64 u) := cell_of h.th 0
  go_enter Try.func15, Try.ntmps15
  go_wp2_with (go_at_call 25; refine (load_any h).mono ?_; rintro e w' ⟨rfl, rfl⟩)
  go_ret
  exact ⟨rfl, rfl⟩

theorem mPeak (bp bt : Nat) (lim u pk rf : Int) (w : World) (h : Mt w bp bt lim u pk rf) :
    Calls Try.prog 17 #[.pointer (some ⟨bp, 0, none⟩)] w fun e w' => e = .returned (.int .i64 pk) ∧ w = w' := by
  have t1 : w.cell? ⟨bt, 1, none⟩ = some (.int .i64 pk) := cell_of h.th 1
  go_enter Try.func17, Try.ntmps17
  go_wp2_with (go_at_call 25; refine (load_any h).mono ?_; rintro e w' ⟨rfl, rfl⟩)
  go_ret
  exact ⟨rfl, rfl⟩

theorem mRefused (bp bt : Nat) (lim u pk rf : Int) (w : World) (h : Mt w bp bt lim u pk rf) :
    Calls Try.prog 18 #[.pointer (some ⟨bp, 0, none⟩)] w fun e w' => e = .returned (.int .i64 rf) ∧ w = w' := by
  have t2 : w.cell? ⟨bt, 2, none⟩ = some (.int .i64 rf) := cell_of h.th 2
  go_enter Try.func18, Try.ntmps18
  go_wp2_with (go_at_call 25; refine (load_any h).mono ?_; rintro e w' ⟨rfl, rfl⟩)
  go_ret
  exact ⟨rfl, rfl⟩

theorem Mt.drewN {w : World} {bp bt : Nat} {lim u pk rf : Int} (h : Mt w bp bt lim u pk rf) (n : Nat) : Mt (w.drewN n) bp bt lim u pk rf := ⟨h.mh, h.th⟩

/-- What the walk needs of a quiet callee. -/
def Drew (w : World) (v : Value) (e : Ending) (w' : World) : Prop := e = .returned v ∧ ∃ n, w' = w.drewN n

theorem mLeft (bp bt : Nat) (lim u pk rf : Int) (w : World) (h : Mt w bp bt lim u pk rf) (hu : 0 ≤ u) (hl : u ≤ lim) (h2 : lim ≤ 9223372036854775807) :
    Calls Try.prog 16 #[.pointer (some ⟨bp, 0, none⟩)] w (Drew w (.int .i64 (lim - u))) := by
  have cl : w.cell? ⟨bp, 0, none⟩ = some (.int .i64 lim) := cell_of h.mh 0
  have t0 : w.cell? ⟨bt, 0, none⟩ = some (.int .i64 u) := cell_of h.th 0
  go_enter Try.func16, Try.ntmps16
  go_wp2_with fail
  go_quiet ((go_at_call 25; exact Calls.quiet_of ((load_any (h.drewN _)).mono fun _ _ ⟨he, hw⟩ => ⟨he, 0, hw.symm⟩)))
  go_wp2_with fail
  go_ret
  exact ⟨rfl, _, rfl⟩
end Go.Proofs.Ytnejgdbmjnhfiaa.Mtr
