/- The walk of TreeSorts, over the contracts of package tree (XTreeFn). Nothing is claimed here. -/
import Derived.Test.YtjekannajnkejaaDoorTreeLawA
import Derived.Test.YtjekannajnkejaaDoorTreeGet
namespace Go.Proofs.YtjekannajnkejaaDoor.Tre
open Go.RowKit Kit Txt
open Num (Dec zero)

/-- A value's cells, with its keys. -/
theorem HoldV.form2 {w : World} {y : Value} {v : Val} (h : HoldV w y v) : ∃ pk ck a c, y = .agg #[.int .i64 v.kind, .bool v.is, .bool v.num.neg, .string (txt v.num.dig), .int .i64 v.num.exp, .string (txt v.str), .slice pk v.keys.length ck, .slice a v.kids.length c] ∧
    v.keys.length ≤ ck ∧ ck ≤ 9223372036854775807 ∧ (v.keys = [] ∨ ∃ g off, pk = some ⟨g, off, none⟩ ∧ g < w.heap.size ∧ ∀ (i : Nat) (l : List UInt8), v.keys[i]? = some l → w.cell? ⟨g, off + i, none⟩ = some (.string (txt l))) := by
  obtain ⟨k, b, n, s, ks, vs⟩ := v
  obtain ⟨cs, rfl, hc⟩ := h
  rw [Hold] at hc
  obtain ⟨uk, a, c, rfl, ⟨pk, ck, rfl, h1, h2, h3⟩, -⟩ := hc
  exact ⟨pk, ck, a, c, rfl, h1, h2, h3⟩
theorem count_get {v x : Val} {k : List UInt8} (h : get v k = some x) : count x ≤ count v := by
  have := count_kids.2 x (get_kid h)
  omega

set_option maxRecDepth 100000 in
set_option maxHeartbeats 8000000 in
theorem sorts_law {w : World} {v : Val} {u : Value} (ho : Ok w) (ht : Tame v) (h : HoldV w u v) : Calls Tryd.prog 7 #[u] w fun e w' => e = .returned (.bool true) ∧ Below w.heap.size w w' := by
  obtain ⟨pk, ck, a, c, rfl, hl1, hl2, hkeys⟩ := h.form2
  have hA := World.alloc_heap_new w (.cells #[.int .i64 v.kind, .bool v.is, .bool v.num.neg, .string (txt v.num.dig), .int .i64 v.num.exp, .string (txt v.str), .slice pk v.keys.length ck, .slice a v.kids.length c] 27)
  have bA : Below w.heap.size w (w.alloc (.cells #[.int .i64 v.kind, .bool v.is, .bool v.num.neg, .string (txt v.num.dig), .int .i64 v.num.exp, .string (txt v.str), .slice pk v.keys.length ck, .slice a v.kids.length c] 27)) := (Below.refl _ w).alloc (Nat.le_refl _) _
  have hw := wakes_any (ho.below bA)
  have hgr := fun wx (hb : Below w.heap.size w wx) => rgreat_any (h.below hb)
  have hR2 := fun wx (hb : Below w.heap.size w wx) (hm : Mild v) => rright_any hm (h.below hb)
  have hS1 := fun wx (hb : Below w.heap.size w wx) (hm : Mild v) (hc : count v < 1000000) => tsort_any (ho.below hb) hm hc (h.below hb)
  have hG2 := fun wx key (hb : Below w.heap.size w wx) => rget_any (key := key) (h.below hb)
  have hlk : v.keys.length = v.keys.length := rfl
  generalize hk0 : v.kind = k0 at *
  generalize v.is = i0 at *
  generalize v.num = n0 at *
  generalize v.str = s0 at *
  generalize hlk0 : v.keys.length = lk at *
  generalize hlv0 : v.kids.length = lv at *
  have HK := Lib.hid hk0
  have HL := Lib.hid hlk0
  have HV := Lib.hid hlv0
  clear hlk hk0 hlk0 hlv0
  go_enter Tryd.func7, Tryd.ntmps7
  go_wp2_with fail
  refine hw.mono ?_
  rintro e w1 ⟨rfl, k1⟩
  have b1 := bA.trans (k1.mono bA.size)
  have hA1 := (k1.block _ (lt_of_heap hA)).trans hA
  obtain ⟨c0, c1, c2, c3, c4, c5, c6, c7⟩ := eight hA1
  go_wp2_with fail
  refine (hgr _ b1).mono ?_
  rintro e w2 ⟨⟨r, rfl, hr⟩, k2⟩
  have b2 := b1.trans (k2.mono b1.size)
  cases r with
  | true =>
    go_wp2_with fail
    go_ret
    exact ⟨rfl, b2⟩
  | false =>
    obtain ⟨hf, hcn⟩ := hr rfl
    have hm : Mild v := ⟨1, hf⟩
    have hcv := hcn ht
    have hA2 := (k2.block _ (lt_of_heap hA1)).trans hA1
    clear c0 c1 c2 c3 c4 c5 c6 c7 hr hf hcn hgr hw
    obtain ⟨c0, c1, c2, c3, c4, c5, c6, c7⟩ := eight hA2
    have hal := lt_of_heap hA2
    have hcm : count v < 1000000 := by omega
    by_cases hR : Right v
    · have R2 := tells_true (hR2 _ b2 hm) hR
      clear hR2 hcv
      go_wp2_with fail
      refine R2.mono ?_
      rintro e w3 ⟨rfl, k3⟩
      have b3 := b2.trans (k3.mono b2.size)
      have hal3 : w.heap.size < w3.heap.size := Nat.lt_of_lt_of_le hal k3.size
      obtain ⟨c0, c1, c2, c3, c4, c5, c6, c7⟩ := box8 k3 hal c0 c1 c2 c3 c4 c5 c6 c7
      have S1 := hS1 _ b3 hm hcm
      clear hS1
      go_wp2_with fail
      refine S1.mono ?_
      rintro e w4 ⟨⟨y, rfl, hy, -⟩, k4⟩
      have hy := hy hR
      obtain ⟨pk', ck', a', c', rfl⟩ := hy.form
      have b4 := b3.trans (k4.mono b3.size)
      have hms : Mild (sort v) := let ⟨d, h⟩ := hm; ⟨d, sort_fine v d hR.2 h⟩
      have hcs : count (sort v) < 1000000 := by rw [sort_count v hR.2]; exact hcm
      obtain ⟨z1, z2, z3⟩ := sort_sizes hR.2
      rw [z1, z2, z3, HK.out, HL.out, HV.out] at hy ⊢
      have TG := fun wx key (hb : Below w4.heap.size w4 wx) => tget_any (key := key) (ho.below (b4.trans (hb.mono b4.size))) hms hcs (hy.below hb)
      clear z1 z2 z3 hms hcs S1 hA2
      have hal4 : w.heap.size < w4.heap.size := Nat.lt_of_lt_of_le hal3 k4.size
      obtain ⟨c0, c1, c2, c3, c4, c5, c6, c7⟩ := box8 k4 hal3 c0 c1 c2 c3 c4 c5 c6 c7
      generalize (sort v).is = i1 at *
      generalize (sort v).num = n1 at *
      generalize (sort v).str = s1 at *
      have hB := World.alloc_heap_new w4 (.cells #[.int .i64 k0, .bool i1, .bool n1.neg, .string (txt n1.dig), .int .i64 n1.exp, .string (txt s1), .slice pk' lk ck', .slice a' lv c'] 27)
      have bB : Below w4.heap.size w4 (w4.alloc (.cells #[.int .i64 k0, .bool i1, .bool n1.neg, .string (txt n1.dig), .int .i64 n1.exp, .string (txt s1), .slice pk' lk ck', .slice a' lv c'] 27)) := (Below.refl _ w4).alloc (Nat.le_refl _) _
      obtain ⟨W, hW⟩ : ∃ W, w4.alloc (.cells #[.int .i64 k0, .bool i1, .bool n1.neg, .string (txt n1.dig), .int .i64 n1.exp, .string (txt s1), .slice pk' lk ck', .slice a' lv c'] 27) = W := ⟨_, rfl⟩
      rw [hW] at hB bB
      have HW := Lib.hid hW
      clear hW
      obtain ⟨c0, c1, c2, c3, c4, c5, c6, c7⟩ := box8 bB hal4 c0 c1 c2 c3 c4 c5 c6 c7
      obtain ⟨d0, d1, d2, d3, d4, d5, d6, d7⟩ := eight hB
      have hal5 : w.heap.size < W.heap.size := Nat.lt_of_lt_of_le hal4 bB.size
      have hal6 := lt_of_heap hB
      have bW := b4.trans (bB.mono b4.size)
      have hl3 : (lk : Int) ≤ 9223372036854775807 := by omega
      go_wp2_with fail
      rw [HW.out]
      go_loopw [24] (fun y wr => ∃ j : Nat, j ≤ lk ∧ y = .int .i64 j ∧ Below W.heap.size W wr) (fun y _ => lk - (intOf y).toNat)
      case atStart => exact ⟨0, Nat.zero_le _, rfl, Below.refl _ _⟩
      case round =>
        obtain ⟨j, hj, rfl, bB2⟩ := hrel
        obtain ⟨c0, c1, c2, c3, c4, c5, c6, c7⟩ := box8 bB2 hal5 c0 c1 c2 c3 c4 c5 c6 c7
        obtain ⟨d0, d1, d2, d3, d4, d5, d6, d7⟩ := box8 bB2 hal6 d0 d1 d2 d3 d4 d5 d6 d7
        by_cases hlt : j < lk
        · have hlt' : (j : Int) < (lk : Int) := by omega
          have hjk : j < v.keys.length := by rw [HL.out]; exact hlt
          obtain ⟨x, hgx, hwx, hgs⟩ := get_sort hR.2 (List.getElem_mem hjk)
          have bwr := bW.trans (bB2.mono bW.size)
          have G1 := TG wr v.keys[j] (bB.trans (bB2.mono bB.size))
          rw [hgs] at G1
          have G2 := fun wx (hb : Below w.heap.size w wx) => hG2 wx v.keys[j] hb
          rw [hgx] at G2
          simp only [Option.isSome_some, Option.getD_some] at G1 G2
          have hcx : count x < 1000000 := Nat.lt_of_le_of_lt (count_get hgx) hcm
          have RS0 := fun wx u (hb : HoldV wx u x) => val_mono (fun w' y => HoldV w' y (sort x)) (rsort_any x wx u hwx hcx hb) fun w' y h1 => h1.hold
          have SAME := fun wx (y1 y2 : Value) (h1 : HoldV wx y1 (sort x)) (h2 : HoldV wx y2 (sort x)) => tells_true (rsame_any (sort x) (sort x) wx y1 y2 h1 h2) rfl
          rcases hkeys with hke | ⟨gk, ok, rfl, hgk, hkc⟩
          · exact absurd hjk (by rw [hke]; simp)
          have ck1 := (bwr.cell (p := ⟨gk, ok + j, none⟩) hgk).trans (hkc j _ (List.getElem?_eq_getElem hjk))
          have wk : IntKind.i64.wrap ((j : Int) + 1) = (j : Int) + 1 := by simp only [IntKind.wrap, IntKind.signed, IntKind.bits]; simp; omega
          clear hgx hgs hkc
          generalize v.keys[j] = key at *
          go_wp2_with fail
          refine G1.mono ?_
          rintro e wa ⟨⟨ya, rfl, hya⟩, ka'⟩
          obtain ⟨pa, ca, qa, da, rfl⟩ := hya.form
          generalize (sort x).kind = ka at *
          generalize (sort x).is = ia at *
          generalize (sort x).num = na at *
          generalize (sort x).str = sa at *
          generalize (sort x).keys.length = la at *
          generalize (sort x).kids.length = ma at *
          have bwa := bwr.trans (ka'.mono bwr.size)
          have hBA := World.alloc_heap_new wa (.cells #[.int .i64 ka, .bool ia, .bool na.neg, .string (txt na.dig), .int .i64 na.exp, .string (txt sa), .slice pa la ca, .slice qa ma da] 27)
          have bBA : Below wa.heap.size wa (wa.alloc (.cells #[.int .i64 ka, .bool ia, .bool na.neg, .string (txt na.dig), .int .i64 na.exp, .string (txt sa), .slice pa la ca, .slice qa ma da] 27)) := (Below.refl _ wa).alloc (Nat.le_refl _) _
          have hc5 : w.heap.size < wr.heap.size := Nat.lt_of_lt_of_le hal5 bB2.size
          have hc6 : w4.heap.size < wr.heap.size := Nat.lt_of_lt_of_le hal6 bB2.size
          obtain ⟨c0, c1, c2, c3, c4, c5, c6, c7⟩ := box8 ka' hc5 c0 c1 c2 c3 c4 c5 c6 c7
          obtain ⟨d0, d1, d2, d3, d4, d5, d6, d7⟩ := box8 ka' hc6 d0 d1 d2 d3 d4 d5 d6 d7
          obtain ⟨WA, hWA⟩ : ∃ W, wa.alloc (.cells #[.int .i64 ka, .bool ia, .bool na.neg, .string (txt na.dig), .int .i64 na.exp, .string (txt sa), .slice pa la ca, .slice qa ma da] 27) = W := ⟨_, rfl⟩
          rw [hWA] at hBA bBA
          have HWA := Lib.hid hWA
          clear hWA
          have hc5 := Nat.lt_of_lt_of_le hc5 ka'.size
          have hc6 := Nat.lt_of_lt_of_le hc6 ka'.size
          obtain ⟨c0, c1, c2, c3, c4, c5, c6, c7⟩ := box8 bBA hc5 c0 c1 c2 c3 c4 c5 c6 c7
          obtain ⟨d0, d1, d2, d3, d4, d5, d6, d7⟩ := box8 bBA hc6 d0 d1 d2 d3 d4 d5 d6 d7
          have hc5 := Nat.lt_of_lt_of_le hc5 bBA.size
          have hc6 := Nat.lt_of_lt_of_le hc6 bBA.size
          have bWA := bwa.trans (bBA.mono bwa.size)
          have hyA := hya.below bBA
          have G3 := G2 WA bWA
          clear G2
          go_wp2_with fail
          rw [HWA.out]
          refine G3.mono ?_
          rintro e wb ⟨⟨yb, rfl, hyb⟩, kb'⟩
          obtain ⟨pb, cb, qb, db, rfl⟩ := hyb.form
          generalize x.kind = kb at *
          generalize x.is = ib at *
          generalize x.num = nb at *
          generalize x.str = sb at *
          generalize x.keys.length = lb at *
          generalize x.kids.length = mb at *
          have bwb := bWA.trans (kb'.mono bWA.size)
          have hBB := World.alloc_heap_new wb (.cells #[.int .i64 kb, .bool ib, .bool nb.neg, .string (txt nb.dig), .int .i64 nb.exp, .string (txt sb), .slice pb lb cb, .slice qb mb db] 27)
          have bBB : Below wb.heap.size wb (wb.alloc (.cells #[.int .i64 kb, .bool ib, .bool nb.neg, .string (txt nb.dig), .int .i64 nb.exp, .string (txt sb), .slice pb lb cb, .slice qb mb db] 27)) := (Below.refl _ wb).alloc (Nat.le_refl _) _
          obtain ⟨c0, c1, c2, c3, c4, c5, c6, c7⟩ := box8 kb' hc5 c0 c1 c2 c3 c4 c5 c6 c7
          obtain ⟨d0, d1, d2, d3, d4, d5, d6, d7⟩ := box8 kb' hc6 d0 d1 d2 d3 d4 d5 d6 d7
          obtain ⟨wc, hWB⟩ : ∃ W, wb.alloc (.cells #[.int .i64 kb, .bool ib, .bool nb.neg, .string (txt nb.dig), .int .i64 nb.exp, .string (txt sb), .slice pb lb cb, .slice qb mb db] 27) = W := ⟨_, rfl⟩
          rw [hWB] at hBB bBB
          have HWB := Lib.hid hWB
          clear hWB
          have hala0 := lt_of_heap hBA
          have hBA2 := (kb'.block _ hala0).trans hBA
          have hBA3 := (bBB.block _ (lt_of_heap hBA2)).trans hBA2
          have hala := lt_of_heap hBA3
          have halb := lt_of_heap hBB
          obtain ⟨f0, f1, f2, f3, f4, f5, f6, f7⟩ := eight hBA3
          obtain ⟨g0, g1, g2, g3, g4, g5, g6, g7⟩ := eight hBB
          have bwc := bwb.trans (bBB.mono bwb.size)
          have hyac := (hyA.below kb').below bBB
          have hyb := hyb.below bBB
          have RS := fun wx (hb : Below wc.heap.size wc wx) => RS0 wx _ (hyb.below hb)
          clear RS0 c0 c1 c2 c3 c4 c5 c6 c7 d0 d1 d2 d3 d4 d5 d6 d7
          have bq0 := drew_below wc
          go_wp2_with fail
          rw [HWB.out]
          go_region_held3 (fun wx => wx.cell? ⟨wa.heap.size, 0, none⟩ = some (.int .i64 ka) ∧ wx.cell? ⟨wa.heap.size, 1, none⟩ = some (.bool ia) ∧ wx.cell? ⟨wa.heap.size, 2, none⟩ = some (.bool na.neg) ∧ wx.cell? ⟨wa.heap.size, 3, none⟩ = some (.string (txt na.dig)) ∧ wx.cell? ⟨wa.heap.size, 4, none⟩ = some (.int .i64 na.exp) ∧ wx.cell? ⟨wa.heap.size, 5, none⟩ = some (.string (txt sa)) ∧ wx.cell? ⟨wa.heap.size, 6, none⟩ = some (.slice pa la ca) ∧ wx.cell? ⟨wa.heap.size, 7, none⟩ = some (.slice qa ma da) ∧ wx.cell? ⟨wb.heap.size, 0, none⟩ = some (.int .i64 kb) ∧ wx.cell? ⟨wb.heap.size, 1, none⟩ = some (.bool ib) ∧ wx.cell? ⟨wb.heap.size, 2, none⟩ = some (.bool nb.neg) ∧ wx.cell? ⟨wb.heap.size, 3, none⟩ = some (.string (txt nb.dig)) ∧ wx.cell? ⟨wb.heap.size, 4, none⟩ = some (.int .i64 nb.exp) ∧ wx.cell? ⟨wb.heap.size, 5, none⟩ = some (.string (txt sb)) ∧ wx.cell? ⟨wb.heap.size, 6, none⟩ = some (.slice pb lb cb) ∧ wx.cell? ⟨wb.heap.size, 7, none⟩ = some (.slice qb mb db))
            (first | assumption | go_keep)
            (first | (go_at_call 16; refine (RS _ (by assumption)).mono ?_; rintro e wx ⟨⟨y2, rfl, hy2⟩, kx⟩; have bq := below_step (w := wc) (by assumption) kx; have hya := hyac.below bq; obtain ⟨m0, m1, m2, m3, m4, m5, m6, m7⟩ := box8 bq hala f0 f1 f2 f3 f4 f5 f6 f7; obtain ⟨q0, q1, q2, q3, q4, q5, q6, q7⟩ := box8 bq halb g0 g1 g2 g3 g4 g5 g6 g7) | (go_at_call 15; refine (SAME _ _ _ (by assumption) (by assumption)).mono ?_; rintro e wx ⟨rfl, kx⟩; have bq := below_step (w := wc) (by assumption) kx; have hya := hyac.below bq; obtain ⟨m0, m1, m2, m3, m4, m5, m6, m7⟩ := box8 bq hala f0 f1 f2 f3 f4 f5 f6 f7; obtain ⟨q0, q1, q2, q3, q4, q5, q6, q7⟩ := box8 bq halb g0 g1 g2 g3 g4 g5 g6 g7))
          go_wp2_with fail
          go_roundw
          case rel => exact ⟨j + 1, by omega, by go_num, below_step bB2 (below_step (ka'.trans (bBA.mono ka'.size)) (below_step (kb'.trans (bBB.mono kb'.size)) bq))⟩
          case measure => simp [intOf]; omega
        · obtain rfl : j = lk := by omega
          go_wp2_with fail
          go_ret
          exact ⟨rfl, bW.trans (bB2.mono bW.size)⟩
    · have R2 := tells_false (hR2 _ b2 hm) hR
      clear hR2 hcv
      go_wp2_with fail
      refine R2.mono ?_
      rintro e w3 ⟨rfl, k3⟩
      have b3 := b2.trans (k3.mono b2.size)
      go_wp2_with fail
      go_ret
      exact ⟨rfl, b3⟩
end Go.Proofs.YtjekannajnkejaaDoor.Tre
