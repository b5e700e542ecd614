/- The walk of TreeRights, over the contracts of package tree (XTreeFn). Nothing is claimed here. -/
import Derived.Test.YtjekannajnkejaaDoorTreeWakes
import Derived.Test.YtjekannajnkejaaDoorTreeSortA
import Derived.Test.YtjekannajnkejaaDoorTreeRoom
import Derived.Test.YtjekannajnkejaaDoorTreeSame
import Derived.Deep.RegionHeld3
import Derived.Lib.Hide
namespace Go.Proofs.YtjekannajnkejaaDoor.Tre
open Go.RowKit Kit Txt
open Num (Dec zero)

/-- A value's cells, all shown. -/
def cells8 (k : Int) (b : Bool) (n : Dec) (s : List UInt8) (pk : Option Addr) (lk ck : Nat) (a : Option Addr) (lv c : Nat) : Value := .agg #[.int .i64 k, .bool b, .bool n.neg, .string (txt n.dig), .int .i64 n.exp, .string (txt s), .slice pk lk ck, .slice a lv c]
theorem HoldV.form {w : World} {y : Value} {v : Val} (h : HoldV w y v) : ∃ pk ck a c, y = .agg #[.int .i64 v.kind, .bool v.is, .bool v.num.neg, .string (txt v.num.dig), .int .i64 v.num.exp, .string (txt v.str), .slice pk v.keys.length ck, .slice a v.kids.length c] := by
  obtain ⟨k, b, n, s, ks, vs⟩ := v
  obtain ⟨cs, rfl, hc⟩ := h
  rw [Hold] at hc
  obtain ⟨uk, a, c, rfl, ⟨pk, ck, rfl, -⟩, -⟩ := hc
  exact ⟨pk, ck, a, c, rfl⟩
theorem tells_true {P : Program} {f : FuncId} {args : Array Value} {w : World} {p : Prop} (h : Calls P f args w (Tells p w)) (hp : p) : Calls P f args w fun e w' => e = .returned (.bool true) ∧ Below w.heap.size w w' :=
  h.mono fun e w' ⟨⟨r, he, hr⟩, k⟩ => ⟨by rw [he, hr.2 hp], k⟩
theorem tells_false {P : Program} {f : FuncId} {args : Array Value} {w : World} {p : Prop} (h : Calls P f args w (Tells p w)) (hp : ¬ p) : Calls P f args w fun e w' => e = .returned (.bool false) ∧ Below w.heap.size w w' :=
  h.mono fun e w' ⟨⟨r, he, hr⟩, k⟩ => ⟨by
    cases r with
    | false => exact he
    | true => exact absurd (hr.1 rfl) hp, k⟩
theorem below_step {w a b : World} (h : Below w.heap.size w a) (k : Below a.heap.size a b) : Below w.heap.size w b := h.trans (k.mono h.size)
theorem val_mono {P : Program} {f : FuncId} {args : Array Value} {w : World} {A : World → Value → Prop} (B : World → Value → Prop) (h : Calls P f args w fun e w' => (∃ y, e = .returned y ∧ A w' y) ∧ Below w.heap.size w w') (ab : ∀ w' y, A w' y → B w' y) : Calls P f args w fun e w' => (∃ y, e = .returned y ∧ B w' y) ∧ Below w.heap.size w w' :=
  h.mono fun _ w' ⟨⟨y, he, hy⟩, k⟩ => ⟨⟨y, he, ab w' y hy⟩, k⟩
theorem box8 {w wx : World} (b : Below w.heap.size w wx) {g : Nat} (hg : g < w.heap.size) {v0 v1 v2 v3 v4 v5 v6 v7 : Value} (c0 : w.cell? ⟨g, 0, none⟩ = some v0) (c1 : w.cell? ⟨g, 1, none⟩ = some v1) (c2 : w.cell? ⟨g, 2, none⟩ = some v2) (c3 : w.cell? ⟨g, 3, none⟩ = some v3) (c4 : w.cell? ⟨g, 4, none⟩ = some v4) (c5 : w.cell? ⟨g, 5, none⟩ = some v5) (c6 : w.cell? ⟨g, 6, none⟩ = some v6) (c7 : w.cell? ⟨g, 7, none⟩ = some v7) :
    wx.cell? ⟨g, 0, none⟩ = some v0 ∧ wx.cell? ⟨g, 1, none⟩ = some v1 ∧ wx.cell? ⟨g, 2, none⟩ = some v2 ∧ wx.cell? ⟨g, 3, none⟩ = some v3 ∧ wx.cell? ⟨g, 4, none⟩ = some v4 ∧ wx.cell? ⟨g, 5, none⟩ = some v5 ∧ wx.cell? ⟨g, 6, none⟩ = some v6 ∧ wx.cell? ⟨g, 7, none⟩ = some v7 :=
  ⟨(b.cell (p := ⟨g, 0, none⟩) hg).trans c0, (b.cell (p := ⟨g, 1, none⟩) hg).trans c1, (b.cell (p := ⟨g, 2, none⟩) hg).trans c2, (b.cell (p := ⟨g, 3, none⟩) hg).trans c3, (b.cell (p := ⟨g, 4, none⟩) hg).trans c4, (b.cell (p := ⟨g, 5, none⟩) hg).trans c5, (b.cell (p := ⟨g, 6, none⟩) hg).trans c6, (b.cell (p := ⟨g, 7, none⟩) hg).trans c7⟩
theorem deep_le (v : Val) (h : Mild v) : deep v ≤ 1000000 := by
  obtain ⟨d, h⟩ := h
  have := fine_deep v d h
  omega

set_option maxRecDepth 100000 in
set_option maxHeartbeats 8000000 in
theorem rights_law {w : World} {v : Val} {u : Value} (ho : Ok w) (ht : Tame v) (h : HoldV w u v) : Calls Tryd.prog 3 #[u] w fun e w' => e = .returned (.bool true) ∧ Below w.heap.size w w' := by
  obtain ⟨pk, ck, a, c, rfl⟩ := h.form
  have hA := World.alloc_heap_new w (.cells #[.int .i64 v.kind, .bool v.is, .bool v.num.neg, .string (txt v.num.dig), .int .i64 v.num.exp, .string (txt v.str), .slice pk v.keys.length ck, .slice a v.kids.length c] 27)
  have bA : Below w.heap.size w (w.alloc (.cells #[.int .i64 v.kind, .bool v.is, .bool v.num.neg, .string (txt v.num.dig), .int .i64 v.num.exp, .string (txt v.str), .slice pk v.keys.length ck, .slice a v.kids.length c] 27)) := (Below.refl _ w).alloc (Nat.le_refl _) _
  have hw := wakes_any (ho.below bA)
  have hgr := fun wx (hb : Below w.heap.size w wx) => rgreat_any (h.below hb)
  have hR1 := fun wx (hb : Below w.heap.size w wx) (hm : Mild v) => tright_any (ho.below hb) hm (h.below hb)
  have hR2 := fun wx (hb : Below w.heap.size w wx) (hm : Mild v) => rright_any hm (h.below hb)
  have hD1 := fun wx (hb : Below w.heap.size w wx) (hm : Mild v) => tdeep_any (ho.below hb) hm (h.below hb)
  have hD2 := fun wx (hb : Below w.heap.size w wx) (hm : Mild v) => rdeep_any v wx _ (deep_le v hm) (h.below hb)
  have hS1 := fun wx (hb : Below w.heap.size w wx) (hm : Mild v) (hc : count v < 1000000) => tsort_any (ho.below hb) hm hc (h.below hb)
  generalize hk0 : v.kind = k0 at *
  generalize v.is = i0 at *
  generalize v.num = n0 at *
  generalize v.str = s0 at *
  generalize v.keys.length = lk at *
  generalize v.kids.length = lv at *
  go_enter Tryd.func3, Tryd.ntmps3
  go_wp2_with fail
  refine hw.mono ?_
  rintro e w1 ⟨rfl, k1⟩
  have b1 := bA.trans (k1.mono bA.size)
  have hA1 := (k1.block _ (lt_of_heap hA)).trans hA
  obtain ⟨c0, c1, c2, c3, c4, c5, c6, c7⟩ := eight hA1
  go_wp2_with fail
  refine (hgr _ b1).mono ?_
  rintro e w2 ⟨⟨r, rfl, hr⟩, k2⟩
  have b2 := b1.trans (k2.mono b1.size)
  cases r with
  | true =>
    go_wp2_with fail
    go_ret
    exact ⟨rfl, b2⟩
  | false =>
    obtain ⟨hf, hcn⟩ := hr rfl
    have hm : Mild v := ⟨1, hf⟩
    have hcv := hcn ht
    have hA2 := (k2.block _ (lt_of_heap hA1)).trans hA1
    clear c0 c1 c2 c3 c4 c5 c6 c7 hr hf hcn hgr hw
    obtain ⟨c0, c1, c2, c3, c4, c5, c6, c7⟩ := eight hA2
    have hal := lt_of_heap hA2
    have bq0 := drew_below w2
    have hrec : deep v = deep v := rfl
    have D1 := fun wx (hb : Below w2.heap.size w2 wx) => hD1 wx (b2.trans (hb.mono b2.size)) hm
    have D2 := fun wx (hb : Below w2.heap.size w2 wx) => hD2 wx (b2.trans (hb.mono b2.size)) hm
    by_cases hR : Right v
    · have R1 := fun wx (hb : Below w2.heap.size w2 wx) => tells_true (hR1 wx (b2.trans (hb.mono b2.size)) hm) hR
      have R2 := fun wx (hb : Below w2.heap.size w2 wx) => tells_true (hR2 wx (b2.trans (hb.mono b2.size)) hm) hR
      clear hR1 hR2 hD1 hD2 hrec
      generalize deep v = dv at *
      go_wp2_with fail
      go_region_held3 (fun wx => wx.cell? ⟨w.heap.size, 0, none⟩ = some (.int .i64 k0) ∧ wx.cell? ⟨w.heap.size, 1, none⟩ = some (.bool i0) ∧ wx.cell? ⟨w.heap.size, 2, none⟩ = some (.bool n0.neg) ∧ wx.cell? ⟨w.heap.size, 3, none⟩ = some (.string (txt n0.dig)) ∧ wx.cell? ⟨w.heap.size, 4, none⟩ = some (.int .i64 n0.exp) ∧ wx.cell? ⟨w.heap.size, 5, none⟩ = some (.string (txt s0)) ∧ wx.cell? ⟨w.heap.size, 6, none⟩ = some (.slice pk lk ck) ∧ wx.cell? ⟨w.heap.size, 7, none⟩ = some (.slice a lv c))
        (first | assumption | go_keep)
        (first | (go_at_call 10; refine (R1 _ (by assumption)).mono ?_; rintro e wx ⟨rfl, kx⟩; have bq := below_step (w := w2) (by assumption) kx; have m0 := (bq.cell (p := ⟨w.heap.size, 0, none⟩) hal).trans c0; have m1 := (bq.cell (p := ⟨w.heap.size, 1, none⟩) hal).trans c1; have m2 := (bq.cell (p := ⟨w.heap.size, 2, none⟩) hal).trans c2; have m3 := (bq.cell (p := ⟨w.heap.size, 3, none⟩) hal).trans c3; have m4 := (bq.cell (p := ⟨w.heap.size, 4, none⟩) hal).trans c4; have m5 := (bq.cell (p := ⟨w.heap.size, 5, none⟩) hal).trans c5; have m6 := (bq.cell (p := ⟨w.heap.size, 6, none⟩) hal).trans c6; have m7 := (bq.cell (p := ⟨w.heap.size, 7, none⟩) hal).trans c7) | (go_at_call 11; refine (R2 _ (by assumption)).mono ?_; rintro e wx ⟨rfl, kx⟩; have bq := below_step (w := w2) (by assumption) kx; have m0 := (bq.cell (p := ⟨w.heap.size, 0, none⟩) hal).trans c0; have m1 := (bq.cell (p := ⟨w.heap.size, 1, none⟩) hal).trans c1; have m2 := (bq.cell (p := ⟨w.heap.size, 2, none⟩) hal).trans c2; have m3 := (bq.cell (p := ⟨w.heap.size, 3, none⟩) hal).trans c3; have m4 := (bq.cell (p := ⟨w.heap.size, 4, none⟩) hal).trans c4; have m5 := (bq.cell (p := ⟨w.heap.size, 5, none⟩) hal).trans c5; have m6 := (bq.cell (p := ⟨w.heap.size, 6, none⟩) hal).trans c6; have m7 := (bq.cell (p := ⟨w.heap.size, 7, none⟩) hal).trans c7) | (go_at_call 12; refine (D1 _ (by assumption)).mono ?_; rintro e wx ⟨rfl, kx⟩; have bq := below_step (w := w2) (by assumption) kx; have m0 := (bq.cell (p := ⟨w.heap.size, 0, none⟩) hal).trans c0; have m1 := (bq.cell (p := ⟨w.heap.size, 1, none⟩) hal).trans c1; have m2 := (bq.cell (p := ⟨w.heap.size, 2, none⟩) hal).trans c2; have m3 := (bq.cell (p := ⟨w.heap.size, 3, none⟩) hal).trans c3; have m4 := (bq.cell (p := ⟨w.heap.size, 4, none⟩) hal).trans c4; have m5 := (bq.cell (p := ⟨w.heap.size, 5, none⟩) hal).trans c5; have m6 := (bq.cell (p := ⟨w.heap.size, 6, none⟩) hal).trans c6; have m7 := (bq.cell (p := ⟨w.heap.size, 7, none⟩) hal).trans c7) | (go_at_call 13; refine (D2 _ (by assumption)).mono ?_; rintro e wx ⟨rfl, kx⟩; have bq := below_step (w := w2) (by assumption) kx; have m0 := (bq.cell (p := ⟨w.heap.size, 0, none⟩) hal).trans c0; have m1 := (bq.cell (p := ⟨w.heap.size, 1, none⟩) hal).trans c1; have m2 := (bq.cell (p := ⟨w.heap.size, 2, none⟩) hal).trans c2; have m3 := (bq.cell (p := ⟨w.heap.size, 3, none⟩) hal).trans c3; have m4 := (bq.cell (p := ⟨w.heap.size, 4, none⟩) hal).trans c4; have m5 := (bq.cell (p := ⟨w.heap.size, 5, none⟩) hal).trans c5; have m6 := (bq.cell (p := ⟨w.heap.size, 6, none⟩) hal).trans c6; have m7 := (bq.cell (p := ⟨w.heap.size, 7, none⟩) hal).trans c7))
      have bq1 := b2.trans (bq.mono b2.size)
      have hal1 : w.heap.size < wx.heap.size := Nat.lt_of_lt_of_le hal bq.size
      have hcm : count v < 1000000 := by omega
      have S1 := hS1 _ bq1 hm hcm
      clear D1 D2 hS1 c0 c1 c2 c3 c4 c5 c6 c7
      go_wp2_with fail
      refine S1.mono ?_
      rintro e w4 ⟨⟨y, rfl, hy, -⟩, k4⟩
      have hy := hy hR
      obtain ⟨pk', ck', a', c', rfl⟩ := hy.form
      have b4 := bq1.trans (k4.mono bq1.size)
      have bq4 := bq.trans (k4.mono bq.size)
      have hms : Mild (sort v) := let ⟨d, h⟩ := hm; ⟨d, sort_fine v d hR.2 h⟩
      have hcs : count (sort v) < 1000000 := by rw [sort_count v hR.2]; exact hcm
      have hss := sort_sort v hR.2
      have hRs := sort_right hR
      have TS := fun wx (hb : Below w4.heap.size w4 wx) => val_mono (fun w' y => HoldV w' y (sort v)) (tsort_any (ho.below (b4.trans (hb.mono b4.size))) hms hcs (hy.below hb)) fun w' y h1 => by have := h1.1 hRs; rw [hss] at this; exact this
      have TR := fun wx (hb : Below w4.heap.size w4 wx) => tells_true (tright_any (ho.below (b4.trans (hb.mono b4.size))) hms (hy.below hb)) hRs
      have RS := fun wx (hb : Below w4.heap.size w4 wx) => val_mono (fun w' y => HoldV w' y (sort v)) (rsort_any v wx _ hR.2 hcm (h.below (b4.trans (hb.mono b4.size)))) fun w' y h1 => h1.hold
      have SAME := fun wx (y1 y2 : Value) (h1 : HoldV wx y1 (sort v)) (h2 : HoldV wx y2 (sort v)) => tells_true (rsame_any (sort v) (sort v) wx y1 y2 h1 h2) rfl
      clear hss hRs hms hcs S1 hA2
      generalize (sort v).kind = k1 at *
      generalize (sort v).is = i1 at *
      generalize (sort v).num = n1 at *
      generalize (sort v).str = s1 at *
      generalize (sort v).keys.length = lk' at *
      generalize (sort v).kids.length = lv' at *
      generalize sort v = sv at *
      have hB := World.alloc_heap_new w4 (.cells #[.int .i64 k1, .bool i1, .bool n1.neg, .string (txt n1.dig), .int .i64 n1.exp, .string (txt s1), .slice pk' lk' ck', .slice a' lv' c'] 27)
      have bB : Below w4.heap.size w4 (w4.alloc (.cells #[.int .i64 k1, .bool i1, .bool n1.neg, .string (txt n1.dig), .int .i64 n1.exp, .string (txt s1), .slice pk' lk' ck', .slice a' lv' c'] 27)) := (Below.refl _ w4).alloc (Nat.le_refl _) _
      have hal4 : w.heap.size < w4.heap.size := Nat.lt_of_lt_of_le hal1 k4.size
      have R3 := R2 _ (bq4.trans (bB.mono bq4.size))
      obtain ⟨c0, c1, c2, c3, c4, c5, c6, c7⟩ := box8 k4 hal1 m0 m1 m2 m3 m4 m5 m6 m7
      clear m0 m1 m2 m3 m4 m5 m6 m7 R1 R2
      go_wp2_with fail
      refine R3.mono ?_
      rintro e w5 ⟨rfl, k5⟩
      have b45 := bB.trans (k5.mono bB.size)
      have b5 := b4.trans (b45.mono b4.size)
      have hys := hy.below b45
      have hal5 : w.heap.size < w5.heap.size := Nat.lt_of_lt_of_le hal4 b45.size
      have hB5 := (k5.block _ (lt_of_heap hB)).trans hB
      have hal6 := lt_of_heap hB5
      obtain ⟨c0, c1, c2, c3, c4, c5, c6, c7⟩ := box8 b45 hal4 c0 c1 c2 c3 c4 c5 c6 c7
      obtain ⟨d0, d1, d2, d3, d4, d5, d6, d7⟩ := eight hB5
      have TS5 := fun wx (hb : Below w5.heap.size w5 wx) => TS wx (b45.trans (hb.mono b45.size))
      have TR5 := fun wx (hb : Below w5.heap.size w5 wx) => TR wx (b45.trans (hb.mono b45.size))
      have RS5 := fun wx (hb : Below w5.heap.size w5 wx) => RS wx (b45.trans (hb.mono b45.size))
      clear TS TR RS
      have bq0 := drew_below w5
      go_wp2_with fail
      go_region_held3 (fun wx => wx.cell? ⟨w.heap.size, 0, none⟩ = some (.int .i64 k0) ∧ wx.cell? ⟨w.heap.size, 1, none⟩ = some (.bool i0) ∧ wx.cell? ⟨w.heap.size, 2, none⟩ = some (.bool n0.neg) ∧ wx.cell? ⟨w.heap.size, 3, none⟩ = some (.string (txt n0.dig)) ∧ wx.cell? ⟨w.heap.size, 4, none⟩ = some (.int .i64 n0.exp) ∧ wx.cell? ⟨w.heap.size, 5, none⟩ = some (.string (txt s0)) ∧ wx.cell? ⟨w.heap.size, 6, none⟩ = some (.slice pk lk ck) ∧ wx.cell? ⟨w.heap.size, 7, none⟩ = some (.slice a lv c) ∧ wx.cell? ⟨w4.heap.size, 0, none⟩ = some (.int .i64 k1) ∧ wx.cell? ⟨w4.heap.size, 1, none⟩ = some (.bool i1) ∧ wx.cell? ⟨w4.heap.size, 2, none⟩ = some (.bool n1.neg) ∧ wx.cell? ⟨w4.heap.size, 3, none⟩ = some (.string (txt n1.dig)) ∧ wx.cell? ⟨w4.heap.size, 4, none⟩ = some (.int .i64 n1.exp) ∧ wx.cell? ⟨w4.heap.size, 5, none⟩ = some (.string (txt s1)) ∧ wx.cell? ⟨w4.heap.size, 6, none⟩ = some (.slice pk' lk' ck') ∧ wx.cell? ⟨w4.heap.size, 7, none⟩ = some (.slice a' lv' c'))
        (first | assumption | go_keep)
        (first | (go_at_call 16; refine (RS5 _ (by assumption)).mono ?_; rintro e wx ⟨⟨y2, rfl, hy2⟩, kx⟩; have bq := below_step (w := w5) (by assumption) kx; have hyx := hys.below bq; obtain ⟨m0, m1, m2, m3, m4, m5, m6, m7⟩ := box8 bq hal5 c0 c1 c2 c3 c4 c5 c6 c7; obtain ⟨q0, q1, q2, q3, q4, q5, q6, q7⟩ := box8 bq hal6 d0 d1 d2 d3 d4 d5 d6 d7) | (go_at_call 15; refine (SAME _ _ _ (by assumption) (by assumption)).mono ?_; rintro e wx ⟨rfl, kx⟩; have bq := below_step (w := w5) (by assumption) kx; have hyx := hys.below bq; obtain ⟨m0, m1, m2, m3, m4, m5, m6, m7⟩ := box8 bq hal5 c0 c1 c2 c3 c4 c5 c6 c7; obtain ⟨q0, q1, q2, q3, q4, q5, q6, q7⟩ := box8 bq hal6 d0 d1 d2 d3 d4 d5 d6 d7) | (go_at_call 14; refine (TS5 _ (by assumption)).mono ?_; rintro e wx ⟨⟨y2, rfl, hy2⟩, kx⟩; have bq := below_step (w := w5) (by assumption) kx; have hyx := hys.below bq; obtain ⟨m0, m1, m2, m3, m4, m5, m6, m7⟩ := box8 bq hal5 c0 c1 c2 c3 c4 c5 c6 c7; obtain ⟨q0, q1, q2, q3, q4, q5, q6, q7⟩ := box8 bq hal6 d0 d1 d2 d3 d4 d5 d6 d7) | (go_at_call 10; refine (TR5 _ (by assumption)).mono ?_; rintro e wx ⟨rfl, kx⟩; have bq := below_step (w := w5) (by assumption) kx; have hyx := hys.below bq; obtain ⟨m0, m1, m2, m3, m4, m5, m6, m7⟩ := box8 bq hal5 c0 c1 c2 c3 c4 c5 c6 c7; obtain ⟨q0, q1, q2, q3, q4, q5, q6, q7⟩ := box8 bq hal6 d0 d1 d2 d3 d4 d5 d6 d7))
      go_wp2_with fail
      go_ret
      exact ⟨rfl, b5.trans (bq.mono b5.size)⟩
    · have R1 := fun wx (hb : Below w2.heap.size w2 wx) => tells_false (hR1 wx (b2.trans (hb.mono b2.size)) hm) hR
      have R2 := fun wx (hb : Below w2.heap.size w2 wx) => tells_false (hR2 wx (b2.trans (hb.mono b2.size)) hm) hR
      clear hR1 hR2 hD1 hD2 hrec
      generalize deep v = dv at *
      go_wp2_with fail
      go_region_held3 (fun wx => wx.cell? ⟨w.heap.size, 0, none⟩ = some (.int .i64 k0) ∧ wx.cell? ⟨w.heap.size, 1, none⟩ = some (.bool i0) ∧ wx.cell? ⟨w.heap.size, 2, none⟩ = some (.bool n0.neg) ∧ wx.cell? ⟨w.heap.size, 3, none⟩ = some (.string (txt n0.dig)) ∧ wx.cell? ⟨w.heap.size, 4, none⟩ = some (.int .i64 n0.exp) ∧ wx.cell? ⟨w.heap.size, 5, none⟩ = some (.string (txt s0)) ∧ wx.cell? ⟨w.heap.size, 6, none⟩ = some (.slice pk lk ck) ∧ wx.cell? ⟨w.heap.size, 7, none⟩ = some (.slice a lv c))
        (first | assumption | go_keep)
        (first | (go_at_call 10; refine (R1 _ (by assumption)).mono ?_; rintro e wx ⟨rfl, kx⟩; have bq := below_step (w := w2) (by assumption) kx; have m0 := (bq.cell (p := ⟨w.heap.size, 0, none⟩) hal).trans c0; have m1 := (bq.cell (p := ⟨w.heap.size, 1, none⟩) hal).trans c1; have m2 := (bq.cell (p := ⟨w.heap.size, 2, none⟩) hal).trans c2; have m3 := (bq.cell (p := ⟨w.heap.size, 3, none⟩) hal).trans c3; have m4 := (bq.cell (p := ⟨w.heap.size, 4, none⟩) hal).trans c4; have m5 := (bq.cell (p := ⟨w.heap.size, 5, none⟩) hal).trans c5; have m6 := (bq.cell (p := ⟨w.heap.size, 6, none⟩) hal).trans c6; have m7 := (bq.cell (p := ⟨w.heap.size, 7, none⟩) hal).trans c7) | (go_at_call 11; refine (R2 _ (by assumption)).mono ?_; rintro e wx ⟨rfl, kx⟩; have bq := below_step (w := w2) (by assumption) kx; have m0 := (bq.cell (p := ⟨w.heap.size, 0, none⟩) hal).trans c0; have m1 := (bq.cell (p := ⟨w.heap.size, 1, none⟩) hal).trans c1; have m2 := (bq.cell (p := ⟨w.heap.size, 2, none⟩) hal).trans c2; have m3 := (bq.cell (p := ⟨w.heap.size, 3, none⟩) hal).trans c3; have m4 := (bq.cell (p := ⟨w.heap.size, 4, none⟩) hal).trans c4; have m5 := (bq.cell (p := ⟨w.heap.size, 5, none⟩) hal).trans c5; have m6 := (bq.cell (p := ⟨w.heap.size, 6, none⟩) hal).trans c6; have m7 := (bq.cell (p := ⟨w.heap.size, 7, none⟩) hal).trans c7) | (go_at_call 12; refine (D1 _ (by assumption)).mono ?_; rintro e wx ⟨rfl, kx⟩; have bq := below_step (w := w2) (by assumption) kx; have m0 := (bq.cell (p := ⟨w.heap.size, 0, none⟩) hal).trans c0; have m1 := (bq.cell (p := ⟨w.heap.size, 1, none⟩) hal).trans c1; have m2 := (bq.cell (p := ⟨w.heap.size, 2, none⟩) hal).trans c2; have m3 := (bq.cell (p := ⟨w.heap.size, 3, none⟩) hal).trans c3; have m4 := (bq.cell (p := ⟨w.heap.size, 4, none⟩) hal).trans c4; have m5 := (bq.cell (p := ⟨w.heap.size, 5, none⟩) hal).trans c5; have m6 := (bq.cell (p := ⟨w.heap.size, 6, none⟩) hal).trans c6; have m7 := (bq.cell (p := ⟨w.heap.size, 7, none⟩) hal).trans c7) | (go_at_call 13; refine (D2 _ (by assumption)).mono ?_; rintro e wx ⟨rfl, kx⟩; have bq := below_step (w := w2) (by assumption) kx; have m0 := (bq.cell (p := ⟨w.heap.size, 0, none⟩) hal).trans c0; have m1 := (bq.cell (p := ⟨w.heap.size, 1, none⟩) hal).trans c1; have m2 := (bq.cell (p := ⟨w.heap.size, 2, none⟩) hal).trans c2; have m3 := (bq.cell (p := ⟨w.heap.size, 3, none⟩) hal).trans c3; have m4 := (bq.cell (p := ⟨w.heap.size, 4, none⟩) hal).trans c4; have m5 := (bq.cell (p := ⟨w.heap.size, 5, none⟩) hal).trans c5; have m6 := (bq.cell (p := ⟨w.heap.size, 6, none⟩) hal).trans c6; have m7 := (bq.cell (p := ⟨w.heap.size, 7, none⟩) hal).trans c7))
      have bq1 := b2.trans (bq.mono b2.size)
      have hal1 : w.heap.size < wx.heap.size := Nat.lt_of_lt_of_le hal bq.size
      have hcm : count v < 1000000 := by omega
      have S1 := hS1 _ bq1 hm hcm
      clear D1 D2 hS1 c0 c1 c2 c3 c4 c5 c6 c7 hk0
      go_wp2_with fail
      refine S1.mono ?_
      rintro e w4 ⟨⟨y, rfl, -, hy⟩, k4⟩
      have hy := hy hR
      obtain ⟨pk', ck', a', c', rfl⟩ := hy.form
      have b4 := bq1.trans (k4.mono bq1.size)
      have bq4 := bq.trans (k4.mono bq.size)
      have SAME := fun wx (y1 y2 : Value) (h1 : HoldV wx y1 v) (h2 : HoldV wx y2 v) => tells_true (rsame_any v v wx y1 y2 h1 h2) rfl
      generalize v.kind = k1 at *
      generalize v.is = i1 at *
      generalize v.num = n1 at *
      generalize v.str = s1 at *
      generalize v.keys.length = lk' at *
      generalize v.kids.length = lv' at *
      have hB := World.alloc_heap_new w4 (.cells #[.int .i64 k1, .bool i1, .bool n1.neg, .string (txt n1.dig), .int .i64 n1.exp, .string (txt s1), .slice pk' lk' ck', .slice a' lv' c'] 27)
      have bB : Below w4.heap.size w4 (w4.alloc (.cells #[.int .i64 k1, .bool i1, .bool n1.neg, .string (txt n1.dig), .int .i64 n1.exp, .string (txt s1), .slice pk' lk' ck', .slice a' lv' c'] 27)) := (Below.refl _ w4).alloc (Nat.le_refl _) _
      have hal4 : w.heap.size < w4.heap.size := Nat.lt_of_lt_of_le hal1 k4.size
      have R3 := R2 _ (bq4.trans (bB.mono bq4.size))
      obtain ⟨c0, c1, c2, c3, c4, c5, c6, c7⟩ := box8 k4 hal1 m0 m1 m2 m3 m4 m5 m6 m7
      clear m0 m1 m2 m3 m4 m5 m6 m7 R1 R2
      go_wp2_with fail
      refine R3.mono ?_
      rintro e w5 ⟨rfl, k5⟩
      have b45 := bB.trans (k5.mono bB.size)
      have b5 := b4.trans (b45.mono b4.size)
      have hys := hy.below b45
      have hv5 := h.below b5
      have hal5 : w.heap.size < w5.heap.size := Nat.lt_of_lt_of_le hal4 b45.size
      have hB5 := (k5.block _ (lt_of_heap hB)).trans hB
      have hal6 := lt_of_heap hB5
      obtain ⟨c0, c1, c2, c3, c4, c5, c6, c7⟩ := box8 b45 hal4 c0 c1 c2 c3 c4 c5 c6 c7
      obtain ⟨d0, d1, d2, d3, d4, d5, d6, d7⟩ := eight hB5
      go_wp2_with fail
      refine (SAME _ _ _ hys hv5).mono ?_
      rintro e w6 ⟨rfl, k6⟩
      go_wp2_with fail
      go_ret
      exact ⟨rfl, b5.trans (k6.mono b5.size)⟩
end Go.Proofs.YtjekannajnkejaaDoor.Tre
