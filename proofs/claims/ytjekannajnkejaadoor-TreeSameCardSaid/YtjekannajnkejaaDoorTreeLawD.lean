/- The walk of TreeSame, over the contracts of package tree (XTreeFn). Nothing is claimed here. -/
import Derived.Test.YtjekannajnkejaaDoorTreeLawA
import Derived.Test.YtjekannajnkejaaDoorTreeSep
namespace Go.Proofs.YtjekannajnkejaaDoor.Tre
open Go.RowKit Kit Txt
open Num (Dec zero)

theorem tells_dec {P : Program} {f : FuncId} {args : Array Value} {w : World} {p : Prop} (r : Bool) (hr : r = true ↔ p) (h : Calls P f args w (Tells p w)) : Calls P f args w fun e w' => e = .returned (.bool r) ∧ Below w.heap.size w w' := by
  cases r with
  | true => exact tells_true h (hr.1 rfl)
  | false => exact tells_false h fun hp => by simpa using hr.2 hp

set_option maxRecDepth 100000 in
set_option maxHeartbeats 8000000 in
theorem same_law {w : World} {va vb : Val} {u u' : Value} (ho : Ok w) (ht : Tame va) (_ht' : Tame vb) (h : HoldV w u va) (h' : HoldV w u' vb) : Calls Tryd.prog 4 #[u, u'] w fun e w' => e = .returned (.bool true) ∧ Below w.heap.size w w' := by
  obtain ⟨pk, ck, a, c, rfl⟩ := h.form
  obtain ⟨pb, cb, b, d, rfl⟩ := h'.form
  generalize hk0 : va.kind = k0 at *
  generalize hi0 : va.is = i0 at *
  generalize hn0 : va.num = n0 at *
  generalize hs0 : va.str = s0 at *
  generalize hlk0 : va.keys.length = lk0 at *
  generalize hlv0 : va.kids.length = lv0 at *
  generalize hk1 : vb.kind = k1 at *
  generalize hi1 : vb.is = i1 at *
  generalize hn1 : vb.num = n1 at *
  generalize hs1 : vb.str = s1 at *
  generalize hlk1 : vb.keys.length = lk1 at *
  generalize hlv1 : vb.kids.length = lv1 at *
  have HF := Lib.hid (And.intro hk0 (And.intro hi0 (And.intro hn0 (And.intro hs0 (And.intro hlk0 hlv0)))))
  clear hk0 hi0 hn0 hs0 hlk0 hlv0 hk1 hi1 hn1 hs1 hlk1 hlv1
  have hA := new_of (World.alloc_heap_new w (.cells #[.int .i64 k0, .bool i0, .bool n0.neg, .string (txt n0.dig), .int .i64 n0.exp, .string (txt s0), .slice pk lk0 ck, .slice a lv0 c] 27)) (.cells #[.int .i64 k1, .bool i1, .bool n1.neg, .string (txt n1.dig), .int .i64 n1.exp, .string (txt s1), .slice pb lk1 cb, .slice b lv1 d] 27)
  have hB := World.alloc_heap_new (w.alloc (.cells #[.int .i64 k0, .bool i0, .bool n0.neg, .string (txt n0.dig), .int .i64 n0.exp, .string (txt s0), .slice pk lk0 ck, .slice a lv0 c] 27)) (.cells #[.int .i64 k1, .bool i1, .bool n1.neg, .string (txt n1.dig), .int .i64 n1.exp, .string (txt s1), .slice pb lk1 cb, .slice b lv1 d] 27)
  rw [World.size_alloc] at hB
  have bA : Below w.heap.size w ((w.alloc (.cells #[.int .i64 k0, .bool i0, .bool n0.neg, .string (txt n0.dig), .int .i64 n0.exp, .string (txt s0), .slice pk lk0 ck, .slice a lv0 c] 27)).alloc (.cells #[.int .i64 k1, .bool i1, .bool n1.neg, .string (txt n1.dig), .int .i64 n1.exp, .string (txt s1), .slice pb lk1 cb, .slice b lv1 d] 27)) := ((Below.refl _ w).alloc (Nat.le_refl _) _).alloc (by simp) _
  have hw := wakes_any (ho.below bA)
  have hgr := fun wx (hb : Below w.heap.size w wx) => rgreat_any (h.below hb)
  have hgr' := fun wx (hb : Below w.heap.size w wx) => rgreat_any (h'.below hb)
  have hT1 := fun wx (hb : Below w.heap.size w wx) (hm : Mild va) (hm' : Mild vb) => tsame_any (ho.below hb) hm hm' (h.below hb) (h'.below hb)
  have hT2 := fun wx (hb : Below w.heap.size w wx) => rsame_any va vb wx _ _ (h.below hb) (h'.below hb)
  go_enter Tryd.func4, Tryd.ntmps4
  go_wp2_with fail
  refine hw.mono ?_
  rintro e w1 ⟨rfl, j1⟩
  have b1 := bA.trans (j1.mono bA.size)
  have hA := (j1.block _ (lt_of_heap hA)).trans hA
  have hB := (j1.block _ (lt_of_heap hB)).trans hB
  obtain ⟨c0, c1, c2, c3, c4, c5, c6, c7⟩ := eight hA
  obtain ⟨d0, d1, d2, d3, d4, d5, d6, d7⟩ := eight hB
  go_wp2_with fail
  refine (hgr _ b1).mono ?_
  rintro e w2 ⟨⟨r, rfl, hr⟩, j2⟩
  have b2 := b1.trans (j2.mono b1.size)
  cases r with
  | true =>
    go_wp2_with fail
    go_ret
    exact ⟨rfl, b2⟩
  | false =>
    obtain ⟨hf, hcn⟩ := hr rfl
    have hm : Mild va := ⟨1, hf⟩
    have hcv := hcn ht
    have hcm : count va < 1000000 := by omega
    have hA := (j2.block _ (lt_of_heap hA)).trans hA
    have hB := (j2.block _ (lt_of_heap hB)).trans hB
    clear c0 c1 c2 c3 c4 c5 c6 c7 d0 d1 d2 d3 d4 d5 d6 d7 hr hf hcn hgr hw
    obtain ⟨c0, c1, c2, c3, c4, c5, c6, c7⟩ := eight hA
    obtain ⟨d0, d1, d2, d3, d4, d5, d6, d7⟩ := eight hB
    go_wp2_with fail
    refine (hgr' _ b2).mono ?_
    rintro e w4 ⟨⟨r, rfl, hr⟩, j4⟩
    have b4 := b2.trans (j4.mono b2.size)
    cases r with
    | true =>
      go_wp2_with fail
      go_ret
      exact ⟨rfl, b4⟩
    | false =>
      obtain ⟨hf, hcn⟩ := hr rfl
      have hm' : Mild vb := ⟨1, hf⟩
      have hA := (j4.block _ (lt_of_heap hA)).trans hA
      have hB := (j4.block _ (lt_of_heap hB)).trans hB
      have hal := lt_of_heap hA
      have hbl := lt_of_heap hB
      clear c0 c1 c2 c3 c4 c5 c6 c7 d0 d1 d2 d3 d4 d5 d6 d7 hr hf hcn hgr'
      obtain ⟨c0, c1, c2, c3, c4, c5, c6, c7⟩ := eight hA
      obtain ⟨d0, d1, d2, d3, d4, d5, d6, d7⟩ := eight hB
      obtain ⟨r, hr⟩ : ∃ r : Bool, r = true ↔ va = vb := by
        by_cases e : va = vb
        · exact ⟨true, by simp [e]⟩
        · exact ⟨false, by simp [e]⟩
      have T1 := fun wx (hb : Below w4.heap.size w4 wx) => tells_dec r hr (hT1 wx (b4.trans (hb.mono b4.size)) hm hm')
      have T2 := fun wx (hb : Below w4.heap.size w4 wx) => tells_dec r hr (hT2 wx (b4.trans (hb.mono b4.size)))
      have hrr : (r != r) = false := by cases r <;> rfl
      have bq0 := drew_below w4
      clear hr hT1 hT2
      go_wp2_with fail
      go_region_held3 (fun wx => wx.cell? ⟨w.heap.size, 0, none⟩ = some (.int .i64 k0) ∧ wx.cell? ⟨w.heap.size, 1, none⟩ = some (.bool i0) ∧ wx.cell? ⟨w.heap.size, 2, none⟩ = some (.bool n0.neg) ∧ wx.cell? ⟨w.heap.size, 3, none⟩ = some (.string (txt n0.dig)) ∧ wx.cell? ⟨w.heap.size, 4, none⟩ = some (.int .i64 n0.exp) ∧ wx.cell? ⟨w.heap.size, 5, none⟩ = some (.string (txt s0)) ∧ wx.cell? ⟨w.heap.size, 6, none⟩ = some (.slice pk lk0 ck) ∧ wx.cell? ⟨w.heap.size, 7, none⟩ = some (.slice a lv0 c) ∧ wx.cell? ⟨w.heap.size + 1, 0, none⟩ = some (.int .i64 k1) ∧ wx.cell? ⟨w.heap.size + 1, 1, none⟩ = some (.bool i1) ∧ wx.cell? ⟨w.heap.size + 1, 2, none⟩ = some (.bool n1.neg) ∧ wx.cell? ⟨w.heap.size + 1, 3, none⟩ = some (.string (txt n1.dig)) ∧ wx.cell? ⟨w.heap.size + 1, 4, none⟩ = some (.int .i64 n1.exp) ∧ wx.cell? ⟨w.heap.size + 1, 5, none⟩ = some (.string (txt s1)) ∧ wx.cell? ⟨w.heap.size + 1, 6, none⟩ = some (.slice pb lk1 cb) ∧ wx.cell? ⟨w.heap.size + 1, 7, none⟩ = some (.slice b lv1 d))
        (first | assumption | go_keep)
        (first | (go_at_call 17; refine (T1 _ (by assumption)).mono ?_; rintro e wx ⟨rfl, kx⟩; have bq := below_step (w := w4) (by assumption) kx; obtain ⟨m0, m1, m2, m3, m4, m5, m6, m7⟩ := box8 bq hal c0 c1 c2 c3 c4 c5 c6 c7; obtain ⟨q0, q1, q2, q3, q4, q5, q6, q7⟩ := box8 bq hbl d0 d1 d2 d3 d4 d5 d6 d7) | (go_at_call 15; refine (T2 _ (by assumption)).mono ?_; rintro e wx ⟨rfl, kx⟩; have bq := below_step (w := w4) (by assumption) kx; obtain ⟨m0, m1, m2, m3, m4, m5, m6, m7⟩ := box8 bq hal c0 c1 c2 c3 c4 c5 c6 c7; obtain ⟨q0, q1, q2, q3, q4, q5, q6, q7⟩ := box8 bq hbl d0 d1 d2 d3 d4 d5 d6 d7))
      have b5 := b4.trans (bq.mono b4.size)
      have hA := (bq.block _ hal).trans hA
      have hal5 := lt_of_heap hA
      have C1 := tcopy_any (ho.below b5) hm hcm (h.below b5)
      clear c0 c1 c2 c3 c4 c5 c6 c7 d0 d1 d2 d3 d4 d5 d6 d7 T1 T2
      obtain ⟨w5, hw5⟩ : ∃ w5, wx = w5 := ⟨_, rfl⟩
      subst hw5
      go_wp2_with fail
      refine C1.mono ?_
      rintro e w6 ⟨⟨y, rfl, hy, hsh⟩, j6⟩
      obtain ⟨pc, cc, qc, dc, hy0⟩ := hy.hold.form
      obtain ⟨e1, e2, e3, e4, e5, e6⟩ := HF.out
      rw [e1, e2, e3, e4, e5, e6] at hy0
      subst hy0
      clear e1 e2 e3 e4 e5 e6 m0 m1 m2 m3 m4 m5 m6 m7 q0 q1 q2 q3 q4 q5 q6 q7
      have b6 := b5.trans (j6.mono b5.size)
      have hC := World.alloc_heap_new w6 (.cells #[.int .i64 k0, .bool i0, .bool n0.neg, .string (txt n0.dig), .int .i64 n0.exp, .string (txt s0), .slice pc lk0 cc, .slice qc lv0 dc] 27)
      have bC : Below w6.heap.size w6 (w6.alloc (.cells #[.int .i64 k0, .bool i0, .bool n0.neg, .string (txt n0.dig), .int .i64 n0.exp, .string (txt s0), .slice pc lk0 cc, .slice qc lv0 dc] 27)) := (Below.refl _ w6).alloc (Nat.le_refl _) _
      obtain ⟨W6, hW6⟩ : ∃ W, w6.alloc (.cells #[.int .i64 k0, .bool i0, .bool n0.neg, .string (txt n0.dig), .int .i64 n0.exp, .string (txt s0), .slice pc lk0 cc, .slice qc lv0 dc] 27) = W := ⟨_, rfl⟩
      rw [hW6] at hC bC
      have HW6 := Lib.hid hW6
      have z6 : W6.heap.size = w6.heap.size + 1 := by rw [← hW6, World.size_alloc]
      clear hW6
      have bb6 := b6.trans (bC.mono b6.size)
      have hA6 := (j6.block _ hal5).trans hA
      have hA6' := (bC.block _ (lt_of_heap hA6)).trans hA6
      have hyC := hy.hold.below bC
      have C2 := tcopy_any (ho.below bb6) hm hcm hyC
      go_wp2_with fail
      rw [HW6.out]
      refine C2.mono ?_
      rintro e w7 ⟨⟨y2, rfl, hy2, -⟩, j7⟩
      obtain ⟨pd, cd, qd, dd, hy0⟩ := hy2.hold.form
      obtain ⟨e1, e2, e3, e4, e5, e6⟩ := HF.out
      rw [e1, e2, e3, e4, e5, e6] at hy0
      subst hy0
      clear e1 e2 e3 e4 e5 e6
      have b7 := bb6.trans (j7.mono bb6.size)
      have hC7 := (j7.block _ (lt_of_heap hC)).trans hC
      have hA7 := (j7.block _ (lt_of_heap hA6')).trans hA6'
      have lC7 := lt_of_heap hC7
      have lA7 := lt_of_heap hA7
      obtain ⟨c0, c1, c2, c3, c4, c5, c6, c7⟩ := eight hA7
      obtain ⟨x0, x1, x2, x3, x4, x5, x6, x7⟩ := eight hC7
      have hDD := World.alloc_heap_new w7 (.cells #[.int .i64 k0, .bool i0, .bool n0.neg, .string (txt n0.dig), .int .i64 n0.exp, .string (txt s0), .slice pd lk0 cd, .slice qd lv0 dd] 27)
      have bD : Below w7.heap.size w7 (w7.alloc (.cells #[.int .i64 k0, .bool i0, .bool n0.neg, .string (txt n0.dig), .int .i64 n0.exp, .string (txt s0), .slice pd lk0 cd, .slice qd lv0 dd] 27)) := (Below.refl _ w7).alloc (Nat.le_refl _) _
      obtain ⟨W7, hW7⟩ : ∃ W, w7.alloc (.cells #[.int .i64 k0, .bool i0, .bool n0.neg, .string (txt n0.dig), .int .i64 n0.exp, .string (txt s0), .slice pd lk0 cd, .slice qd lv0 dd] 27) = W := ⟨_, rfl⟩
      rw [hW7] at hDD bD
      have HW7 := Lib.hid hW7
      clear hW7
      have b77 := b7.trans (bD.mono b7.size)
      have S1 := tells_true (rsame_any va va W7 _ _ ((hyC.below j7).below bD) (h.below b77)) rfl
      go_wp2_with fail
      rw [HW7.out]
      refine S1.mono ?_
      rintro e w8 ⟨rfl, j8⟩
      have b8 := b77.trans (j8.mono b77.size)
      have hC8 := (j8.block _ (lt_of_heap ((bD.block _ lC7).trans hC7))).trans ((bD.block _ lC7).trans hC7)
      have hA8 := (j8.block _ (lt_of_heap ((bD.block _ lA7).trans hA7))).trans ((bD.block _ lA7).trans hA7)
      have hD8 := (j8.block _ (lt_of_heap hDD)).trans hDD
      clear c0 c1 c2 c3 c4 c5 c6 c7 x0 x1 x2 x3 x4 x5 x6 x7
      obtain ⟨c0, c1, c2, c3, c4, c5, c6, c7⟩ := eight hA8
      obtain ⟨x0, x1, x2, x3, x4, x5, x6, x7⟩ := eight hC8
      have S2 := tells_true (tsame_any (ho.below b8) hm hm (((hyC.below j7).below bD).below j8) (h.below b8)) rfl
      go_wp2_with fail
      refine S2.mono ?_
      rintro e w9 ⟨rfl, j9⟩
      have b9 := b8.trans (j9.mono b8.size)
      have hC9 := (j9.block _ (lt_of_heap hC8)).trans hC8
      have hA9 := (j9.block _ (lt_of_heap hA8)).trans hA8
      have hD9 := (j9.block _ (lt_of_heap hD8)).trans hD8
      have j79 := bD.trans ((j8.trans (j9.mono j8.size)).mono bD.size)
      have j69 := bC.trans ((j7.trans (j79.mono j7.size)).mono bC.size)
      have hAt := hsh.box hC9 fun k hk => j69.block k hk.2
      have SP := spoil_any (lo := wx.heap.size) (fun g hg => hg.1) va w9 w6.heap.size 0 2000 hAt (by omega)
      clear hsh
      go_wp2_with fail
      refine SP.mono ?_
      rintro e w10 ⟨rfl, ss, j10⟩
      have b10 := b9.trans (j10.mono b5.size)
      have hA10 := (j10.block _ hal5).trans hA9
      have z7 : w6.heap.size ≤ w7.heap.size := Nat.le_trans bC.size j7.size
      have hD10 := (ss.block w7.heap.size fun hd => by have := hd.2; omega).trans hD9
      have hy10 : HoldV w10 (.agg #[.int .i64 k0, .bool i0, .bool n0.neg, .string (txt n0.dig), .int .i64 n0.exp, .string (txt s0), .slice pd lk0 cd, .slice qd lv0 dd]) va := by
        have h9 := (hy2.below j79)
        obtain ⟨cs, hu, hc⟩ := h9
        exact ⟨cs, hu, HoldP.hold va (HoldP.keep (Nat.le_of_eq ss.size.symm) (fun g hg _ => ss.block g fun hd => by have := hd.2; have : W6.heap.size ≤ g := hg; omega) va hc)⟩
      have S3 := tells_true (rsame_any va va w10 _ _ hy10 (h.below b10)) rfl
      clear c0 c1 c2 c3 c4 c5 c6 c7 x0 x1 x2 x3 x4 x5 x6 x7
      obtain ⟨c0, c1, c2, c3, c4, c5, c6, c7⟩ := eight hA10
      obtain ⟨x0, x1, x2, x3, x4, x5, x6, x7⟩ := eight hD10
      clear ss
      go_wp2_with fail
      refine S3.mono ?_
      rintro e w11 ⟨rfl, j11⟩
      go_wp2_with fail
      go_ret
      exact ⟨rfl, b10.trans (j11.mono b10.size)⟩
end Go.Proofs.YtjekannajnkejaaDoor.Tre
