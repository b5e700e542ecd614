/- The walk of TreeGets, over the contracts of package tree (XTreeFn). Nothing is claimed here. -/
import Derived.Test.YtjekannajnkejaaDoorTreeLawB
import Derived.Test.YtjekannajnkejaaDoorTreeAt
namespace Go.Proofs.YtjekannajnkejaaDoor.Tre
open Go.RowKit Kit Txt
open Num (Dec zero)

theorem HoldX.form {X : Nat → Prop} {w : World} {y : Value} {v : Val} (h : HoldX X w y v) : ∃ pk ck a c, y = .agg #[.int .i64 v.kind, .bool v.is, .bool v.num.neg, .string (txt v.num.dig), .int .i64 v.num.exp, .string (txt v.str), .slice pk v.keys.length ck, .slice a v.kids.length c] := h.hold.form
/-- A variable's block holds the value, whose own memory is another. -/
def XBox (g : Nat) (w : World) (v : Val) : Prop := ∃ pk ck a c, w.heap[g]? = some (.cells #[.int .i64 v.kind, .bool v.is, .bool v.num.neg, .string (txt v.num.dig), .int .i64 v.num.exp, .string (txt v.str), .slice pk v.keys.length ck, .slice a v.kids.length c] 27 (0, 0)) ∧ HoldX (fun k => k ≠ g) w (.agg #[.int .i64 v.kind, .bool v.is, .bool v.num.neg, .string (txt v.num.dig), .int .i64 v.num.exp, .string (txt v.str), .slice pk v.keys.length ck, .slice a v.kids.length c]) v
theorem count_none : count none' < 1000000 := by decide
theorem count_getD {v : Val} {k : List UInt8} (h : count v < 1000000) : count ((get v k).getD none') < 1000000 := by
  cases hg : get v k with
  | none => exact count_none
  | some x => exact Nat.lt_of_le_of_lt (count_get hg) h

theorem count_ats : ∀ (l : List (List UInt8)) (v : Val), count v < 1000000 → count ((ats v l).getD none') < 1000000
  | [], v, h => by simpa [ats] using h
  | k :: l, v, h => by
    simp only [ats]
    cases hg : get v k with
    | none => exact count_none
    | some x => exact count_ats l x (Nat.lt_of_le_of_lt (count_get hg) h)

set_option maxRecDepth 100000 in
set_option maxHeartbeats 8000000 in
theorem gets_law {w : World} {v : Val} {u p : Value} {path : List (List UInt8)} (ho : Ok w) (ht : Tame v) (h : HoldV w u v) (hp : Ks w p path) : Calls Tryd.prog 5 #[u, p] w fun e w' => e = .returned (.bool true) ∧ Below w.heap.size w w' := by
  obtain ⟨pk, ck, a, c, rfl⟩ := h.form
  have hpk := hp
  obtain ⟨pp, cp, rfl, hp1, hp2, hpc⟩ := hpk
  have hA := World.alloc_heap_new w (.cells #[.int .i64 v.kind, .bool v.is, .bool v.num.neg, .string (txt v.num.dig), .int .i64 v.num.exp, .string (txt v.str), .slice pk v.keys.length ck, .slice a v.kids.length c] 27)
  have bA : Below w.heap.size w (w.alloc (.cells #[.int .i64 v.kind, .bool v.is, .bool v.num.neg, .string (txt v.num.dig), .int .i64 v.num.exp, .string (txt v.str), .slice pk v.keys.length ck, .slice a v.kids.length c] 27)) := (Below.refl _ w).alloc (Nat.le_refl _) _
  have hw := wakes_any (ho.below bA)
  have hgr := fun wx (hb : Below w.heap.size w wx) => rgreat_any (h.below hb)
  have hAt := fun wx (hb : Below w.heap.size w wx) (hm : Mild v) (hc : count v < 1000000) (hl : path.length ≤ 60) => tat_any (ho.below hb) hm hc hl (h.below hb) (hp.below hb)
  have hv0 : HoldX (· < w.heap.size) w _ v := h.x.mono fun g _ hg => hg
  have HV0 := Lib.hid hv0
  have HPC := Lib.hid hpc
  clear hpc hv0
  generalize hk0 : v.kind = k0 at *
  generalize hi0 : v.is = i0 at *
  generalize hn0 : v.num = n0 at *
  generalize hs0 : v.str = s0 at *
  generalize hlk0 : v.keys.length = lk at *
  generalize hlv0 : v.kids.length = lv at *
  have HF := Lib.hid (And.intro hk0 (And.intro hi0 (And.intro hn0 (And.intro hs0 (And.intro hlk0 hlv0)))))
  clear hk0 hi0 hn0 hs0 hlk0 hlv0
  obtain ⟨n, hn⟩ : ∃ n, path.length = n := ⟨_, rfl⟩
  have HN := Lib.hid hn
  rw [hn] at hAt hp hp1 ⊢
  clear hn
  go_enter Tryd.func5, Tryd.ntmps5
  go_wp2_with fail
  refine hw.mono ?_
  rintro e w1 ⟨rfl, k1⟩
  have b1 := bA.trans (k1.mono bA.size)
  have hA1 := (k1.block _ (lt_of_heap hA)).trans hA
  obtain ⟨c0, c1, c2, c3, c4, c5, c6, c7⟩ := eight hA1
  go_wp2_with fail
  refine (hgr _ b1).mono ?_
  rintro e w2 ⟨⟨r, rfl, hr⟩, k2⟩
  have b2 := b1.trans (k2.mono b1.size)
  cases r with
  | true =>
    go_wp2_with fail
    go_ret
    exact ⟨rfl, b2⟩
  | false =>
    obtain ⟨hf, hcn⟩ := hr rfl
    have hm : Mild v := ⟨1, hf⟩
    have hcv := hcn ht
    have hcm : count v < 1000000 := by omega
    have hA2 := (k2.block _ (lt_of_heap hA1)).trans hA1
    clear c0 c1 c2 c3 c4 c5 c6 c7 hr hf hcn hgr hw hcv
    obtain ⟨c0, c1, c2, c3, c4, c5, c6, c7⟩ := eight hA2
    have hal := lt_of_heap hA2
    by_cases hn60 : 60 < n
    · have hn60' : (60 : Int) < (n : Int) := by omega
      go_wp2_with fail
      go_ret
      exact ⟨rfl, b2⟩
    · have hn60' : decide (60 < n) = false := by simp; omega
      have hn60'' : decide ((60 : Int) < (n : Int)) = false := by simp; omega
      have AT := fun wx (hb : Below w.heap.size w wx) => hAt wx hb hm hcm (by omega)
      clear hAt
      have hB := World.alloc_heap_new w2 (.cells #[.int .i64 k0, .bool i0, .bool n0.neg, .string (txt n0.dig), .int .i64 n0.exp, .string (txt s0), .slice pk lk ck, .slice a lv c] 27)
      have bB : Below w2.heap.size w2 (w2.alloc (.cells #[.int .i64 k0, .bool i0, .bool n0.neg, .string (txt n0.dig), .int .i64 n0.exp, .string (txt s0), .slice pk lk ck, .slice a lv c] 27)) := (Below.refl _ w2).alloc (Nat.le_refl _) _
      obtain ⟨W, hW⟩ : ∃ W, w2.alloc (.cells #[.int .i64 k0, .bool i0, .bool n0.neg, .string (txt n0.dig), .int .i64 n0.exp, .string (txt s0), .slice pk lk ck, .slice a lv c] 27) = W := ⟨_, rfl⟩
      rw [hW] at hB bB
      have HW := Lib.hid hW
      clear hW
      have bW := b2.trans (bB.mono b2.size)
      have hBA := (bB.block _ hal).trans hA2
      have hX : w.heap.size < w2.heap.size := hal
      go_wp2_with fail
      rw [HW.out]
      have hx0 : XBox w2.heap.size W v := by
        obtain ⟨e1, e2, e3, e4, e5, e6⟩ := HF.out
        refine ⟨pk, ck, a, c, by rw [e1, e2, e3, e4, e5, e6]; exact hB, ?_⟩
        have h1 := (HV0.out.below bW).mono (Y := fun k => k ≠ w2.heap.size) fun g hg _ => by
          have : g < w.heap.size := hg
          omega
        rw [e1, e2, e3, e4, e5, e6]
        exact h1
      clear hB HV0 HF
      go_loopw [27, 6] (fun y o wr => ∃ j : Nat, j ≤ n ∧ y = .int .i64 j ∧ o = .bool (ats v (path.take j)).isSome ∧ XBox w2.heap.size wr ((ats v (path.take j)).getD none') ∧ wr.heap[w.heap.size]? = some (.cells #[.int .i64 k0, .bool i0, .bool n0.neg, .string (txt n0.dig), .int .i64 n0.exp, .string (txt s0), .slice pk lk ck, .slice a lv c] 27 (0, 0)) ∧ Below w.heap.size w wr) (fun y _ _ => n - (intOf y).toNat)
      case atStart => exact ⟨0, Nat.zero_le _, rfl, by simp [ats], by simpa [ats] using hx0, hBA, bW⟩
      case round =>
        obtain ⟨j, hj, rfl, rfl, hxb, hvb, bwr⟩ := hrel
        have hmc := mild_ats (path.take j) v hm
        have hcc := count_ats (path.take j) v hcm
        clear hx0 hBA HW
        cases hq : ats v (path.take j) with
        | none =>
          have hstop := ats_stop hq
          rw [hq] at hxb hmc hcc
          simp only [Option.isSome_none]
          by_cases hlt : j < n
          · have hlt' : (j : Int) < (n : Int) := by omega
            have A1 := AT wr bwr
            have hjp : j < path.length := by rw [HN.out]; exact hlt
            rcases HPC.out with h0 | ⟨gk, ok, rfl, hgk, hkc⟩
            · exact absurd hjp (by rw [h0]; simp)
            have ck1 := (bwr.cell (p := ⟨gk, ok + j, none⟩) hgk).trans (hkc j _ (List.getElem?_eq_getElem hjp))
            clear hkc
            generalize path[j] = key at *
            simp only [hstop, Option.isSome_none, Option.getD_none] at A1
            clear hxb AT hmc hcc
            obtain ⟨c0, c1, c2, c3, c4, c5, c6, c7⟩ := eight hvb
            go_wp2_with fail
            refine A1.mono ?_
            rintro e wa ⟨⟨ya, rfl, hya⟩, ka'⟩
            obtain ⟨pa, ca, qa, da, rfl⟩ := hya.form
            have bBA : Below wa.heap.size wa (wa.alloc (.cells #[.int .i64 none'.kind, .bool none'.is, .bool none'.num.neg, .string (txt none'.num.dig), .int .i64 none'.num.exp, .string (txt none'.str), .slice pa none'.keys.length ca, .slice qa none'.kids.length da] 27)) := (Below.refl _ wa).alloc (Nat.le_refl _) _
            have SAME := fun wx (y1 y2 : Value) (h1 : HoldV wx y1 none') (h2 : HoldV wx y2 none') => tells_true (rsame_any none' none' wx y1 y2 h1 h2) rfl
            have hya := hya.below bBA
            generalize none'.kind = kt at *
            generalize none'.is = it at *
            generalize none'.num = nt at *
            generalize none'.str = st at *
            generalize none'.keys.length = lt at *
            generalize none'.kids.length = mt at *
            go_wp2_with fail
            refine (SAME _ _ _ hya (hold_none _)).mono ?_
            rintro e wb ⟨rfl, kb'⟩
            go_wp2_with fail
            go_ret
            exact ⟨rfl, bwr.trans ((ka'.trans ((bBA.trans (kb'.mono bBA.size)).mono ka'.size)).mono bwr.size)⟩
          · obtain rfl : j = n := by omega
            have A1 := AT wr bwr
            simp only [hstop, Option.isSome_none, Option.getD_none] at A1
            clear hxb AT hmc hcc
            obtain ⟨c0, c1, c2, c3, c4, c5, c6, c7⟩ := eight hvb
            go_wp2_with fail
            refine A1.mono ?_
            rintro e wa ⟨⟨ya, rfl, hya⟩, ka'⟩
            obtain ⟨pa, ca, qa, da, rfl⟩ := hya.form
            have bBA : Below wa.heap.size wa (wa.alloc (.cells #[.int .i64 none'.kind, .bool none'.is, .bool none'.num.neg, .string (txt none'.num.dig), .int .i64 none'.num.exp, .string (txt none'.str), .slice pa none'.keys.length ca, .slice qa none'.kids.length da] 27)) := (Below.refl _ wa).alloc (Nat.le_refl _) _
            have SAME := fun wx (y1 y2 : Value) (h1 : HoldV wx y1 none') (h2 : HoldV wx y2 none') => tells_true (rsame_any none' none' wx y1 y2 h1 h2) rfl
            have hya := hya.below bBA
            generalize none'.kind = kt at *
            generalize none'.is = it at *
            generalize none'.num = nt at *
            generalize none'.str = st at *
            generalize none'.keys.length = lt at *
            generalize none'.kids.length = mt at *
            go_wp2_with fail
            refine (SAME _ _ _ hya (hold_none _)).mono ?_
            rintro e wb ⟨rfl, kb'⟩
            go_wp2_with fail
            go_ret
            exact ⟨rfl, bwr.trans ((ka'.trans ((bBA.trans (kb'.mono bBA.size)).mono ka'.size)).mono bwr.size)⟩
        | some z =>
          rw [hq] at hxb hmc hcc
          simp only [Option.getD_some] at hxb hmc hcc
          by_cases hlt : j < n
          · have hlt' : (j : Int) < (n : Int) := by omega
            have hjp : j < path.length := by rw [HN.out]; exact hlt
            have hstep := ats_take (v := v) hjp
            rw [hq] at hstep
            simp only [Option.bind_some] at hstep
            obtain ⟨px, cx, ax, dx, hXb, hxz⟩ := hxb
            rcases HPC.out with h0 | ⟨gk, ok, rfl, hgk, hkc⟩
            · exact absurd hjp (by rw [h0]; simp)
            have ck1 := (bwr.cell (p := ⟨gk, ok + j, none⟩) hgk).trans (hkc j _ (List.getElem?_eq_getElem hjp))
            have G1 := tgetX_any (key := path[j]) (ho.below bwr) hmc hcc hxz
            have G2 := fun wx (hb : Below wr.heap.size wr wx) => rget_any (key := path[j]) (hxz.hold.below hb)
            clear hkc hmc hcc hq
            generalize path[j] = key at *
            generalize get z key = gz at *
            have HS := Lib.hid hstep
            clear hstep
            obtain ⟨bs, hbs⟩ : ∃ b, gz.isSome = b := ⟨_, rfl⟩
            obtain ⟨t, htt⟩ : ∃ t, gz.getD none' = t := ⟨_, rfl⟩
            rw [hbs, htt] at G1 G2
            have HB := Lib.hid hbs
            have HT := Lib.hid htt
            clear hbs htt
            have hbb : (bs != bs) = false := by cases bs <;> rfl
            have SAME := fun wx (y1 y2 : Value) (h1 : HoldV wx y1 t) (h2 : HoldV wx y2 t) => tells_true (rsame_any t t wx y1 y2 h1 h2) rfl
            have wk : IntKind.i64.wrap ((j : Int) + 1) = (j : Int) + 1 := by simp only [IntKind.wrap, IntKind.signed, IntKind.bits]; simp; omega
            clear hxz
            generalize z.kind = kz at *
            generalize z.is = iz at *
            generalize z.num = nz at *
            generalize z.str = sz at *
            generalize z.keys.length = lz at *
            generalize z.kids.length = mz at *
            obtain ⟨x0, x1, x2, x3, x4, x5, x6, x7⟩ := eight hXb
            have lX := lt_of_heap hXb
            have lXr0 := lt_of_heap hXb
            go_wp2_with fail
            refine G1.mono ?_
            rintro e wa ⟨⟨ya, rfl, hya⟩, ka'⟩
            obtain ⟨pa, ca, qa, da, rfl⟩ := hya.form
            generalize hkt : t.kind = kt at *
            generalize hit : t.is = it at *
            generalize hnt : t.num = nt at *
            generalize hst : t.str = st at *
            generalize hlt0 : t.keys.length = lt at *
            generalize hmt : t.kids.length = mt at *
            have HFT := Lib.hid (And.intro hkt (And.intro hit (And.intro hnt (And.intro hst (And.intro hlt0 hmt)))))
            clear hkt hit hnt hst hlt0 hmt
            have hBA := World.alloc_heap_new wa (.cells #[.int .i64 kt, .bool it, .bool nt.neg, .string (txt nt.dig), .int .i64 nt.exp, .string (txt st), .slice pa lt ca, .slice qa mt da] 27)
            have bBA : Below wa.heap.size wa (wa.alloc (.cells #[.int .i64 kt, .bool it, .bool nt.neg, .string (txt nt.dig), .int .i64 nt.exp, .string (txt st), .slice pa lt ca, .slice qa mt da] 27)) := (Below.refl _ wa).alloc (Nat.le_refl _) _
            obtain ⟨WA, hWA⟩ : ∃ W, wa.alloc (.cells #[.int .i64 kt, .bool it, .bool nt.neg, .string (txt nt.dig), .int .i64 nt.exp, .string (txt st), .slice pa lt ca, .slice qa mt da] 27) = W := ⟨_, rfl⟩
            rw [hWA] at hBA bBA
            have HWA := Lib.hid hWA
            obtain ⟨x0, x1, x2, x3, x4, x5, x6, x7⟩ := box8 ka' lX x0 x1 x2 x3 x4 x5 x6 x7
            have lXa := Nat.lt_of_lt_of_le lX ka'.size
            clear hWA
            have brA := ka'.trans (bBA.mono ka'.size)
            have hXb := (brA.block _ lX).trans hXb
            have lX := lt_of_heap hXb
            have G3 := G2 WA brA
            clear G2
            go_wp2_with fail
            rw [HWA.out]
            refine G3.mono ?_
            rintro e wb ⟨⟨yb, rfl, hyb⟩, kb'⟩
            obtain ⟨pb, cb, qb, db, hyb0⟩ := hyb.form
            obtain ⟨e1, e2, e3, e4, e5, e6⟩ := HFT.out
            rw [e1, e2, e3, e4, e5, e6] at hyb0
            subst hyb0
            clear e1 e2 e3 e4 e5 e6
            have hBB := World.alloc_heap_new wb (.cells #[.int .i64 kt, .bool it, .bool nt.neg, .string (txt nt.dig), .int .i64 nt.exp, .string (txt st), .slice pb lt cb, .slice qb mt db] 27)
            have bBB : Below wb.heap.size wb (wb.alloc (.cells #[.int .i64 kt, .bool it, .bool nt.neg, .string (txt nt.dig), .int .i64 nt.exp, .string (txt st), .slice pb lt cb, .slice qb mt db] 27)) := (Below.refl _ wb).alloc (Nat.le_refl _) _
            obtain ⟨wc, hWB⟩ : ∃ W, wb.alloc (.cells #[.int .i64 kt, .bool it, .bool nt.neg, .string (txt nt.dig), .int .i64 nt.exp, .string (txt st), .slice pb lt cb, .slice qb mt db] 27) = W := ⟨_, rfl⟩
            rw [hWB] at hBB bBB
            have HWB := Lib.hid hWB
            clear hWB x0 x1 x2 x3 x4 x5 x6 x7
            have bAc := kb'.trans (bBB.mono kb'.size)
            have hBA1 := (kb'.block _ (lt_of_heap hBA)).trans hBA
            have lA1 := lt_of_heap hBA1
            obtain ⟨y0, y1, y2, y3, y4, y5, y6, y7⟩ := eight hBA1
            have hBA2 := (bAc.block _ (lt_of_heap hBA)).trans hBA
            obtain ⟨f0, f1, f2, f3, f4, f5, f6, f7⟩ := eight hBA2
            obtain ⟨g0, g1, g2, g3, g4, g5, g6, g7⟩ := eight hBB
            have hyac := (hya.below bBA).below bAc
            have hybc := hyb.below bBB
            go_wp2_with fail
            rw [HWB.out]
            refine (SAME _ _ _ hyac.hold hybc).mono ?_
            rintro e wd ⟨rfl, kd⟩
            have hXd := (kd.block _ (Nat.lt_of_lt_of_le lX bAc.size)).trans ((bAc.block _ lX).trans hXb)
            have hBA3 := (kd.block _ (lt_of_heap hBA2)).trans hBA2
            clear f0 f1 f2 f3 f4 f5 f6 f7 g0 g1 g2 g3 g4 g5 g6 g7
            obtain ⟨f0, f1, f2, f3, f4, f5, f6, f7⟩ := eight hBA3
            obtain ⟨x0, x1, x2, x3, x4, x5, x6, x7⟩ := eight hXd
            have fr := free_of hXd
            have lX2 := lt_of_heap hXd
            have lA2 := lt_of_heap hBA3
            have hyd := hyac.below kd
            have hbd := bwr.trans (((brA.trans (bAc.mono brA.size)).trans (kd.mono (Nat.le_trans brA.size bAc.size))).mono bwr.size)
            have hvd := ((kd.block _ (Nat.lt_of_lt_of_le (Nat.lt_of_lt_of_le (lt_of_heap hvb) brA.size) bAc.size)).trans ((bAc.block _ (Nat.lt_of_lt_of_le (lt_of_heap hvb) brA.size)).trans (brA.block _ (lt_of_heap hvb)))).trans hvb
            have lXr : w2.heap.size < wr.heap.size := lXr0
            clear y0 y1 y2 y3 y4 y5 y6 y7 hBA1 hvb
            go_wp2_with fail
            go_roundw
            case rel =>
              refine ⟨j + 1, by omega, by go_num, by rw [HS.out, HB.out], ?_, ?_, below_set8 hbd (Nat.le_of_lt hX) _ _ _ _ _ _ _ _⟩
              · rw [HS.out, HT.out]
                obtain ⟨e1, e2, e3, e4, e5, e6⟩ := HFT.out
                refine ⟨pa, ca, qa, da, ?_, ?_⟩
                · rw [e1, e2, e3, e4, e5, e6]
                  exact set8_own hXd _ _ _ _ _ _ _ _
                · rw [e1, e2, e3, e4, e5, e6]
                  have h1 := hyd.mono (Y := fun k => k ≠ w2.heap.size) fun g hg _ => by
                    rcases hg with hg | hg
                    · exact hg
                    · omega
                  exact h1.keep (Nat.le_of_eq (set8_size _ _ _ _ _ _ _ _).symm) fun g hg _ => set8_other hg _ _ _ _ _ _ _ _
              · rw [set8_other (Nat.ne_of_lt hX)]
                exact hvd
            case measure => simp [intOf]; omega
          · obtain rfl : j = n := by omega
            have hstop : ats v path = some z := by rw [← hq, ← HN.out, List.take_length]
            have A1 := AT wr bwr
            simp only [hstop, Option.isSome_some, Option.getD_some] at A1
            obtain ⟨px, cx, ax, dx, hXb, hxz⟩ := hxb
            clear AT hmc hcc hq hstop
            have lX := lt_of_heap hXb
            have hxv := hxz.hold
            have SAME := fun wx (y1 y2 : Value) (h1 : HoldV wx y1 z) (h2 : HoldV wx y2 z) => tells_true (rsame_any z z wx y1 y2 h1 h2) rfl
            clear hxz
            generalize hkz : z.kind = kt at *
            generalize hiz : z.is = it at *
            generalize hnz : z.num = nt at *
            generalize hsz : z.str = st at *
            generalize hlz : z.keys.length = lt at *
            generalize hmz : z.kids.length = mt at *
            have HFT := Lib.hid (And.intro hkz (And.intro hiz (And.intro hnz (And.intro hsz (And.intro hlz hmz)))))
            clear hkz hiz hnz hsz hlz hmz
            obtain ⟨c0, c1, c2, c3, c4, c5, c6, c7⟩ := eight hvb
            go_wp2_with fail
            refine A1.mono ?_
            rintro e wa ⟨⟨ya, rfl, hya⟩, ka'⟩
            obtain ⟨pa, ca, qa, da, hya0⟩ := hya.form
            obtain ⟨e1, e2, e3, e4, e5, e6⟩ := HFT.out
            rw [e1, e2, e3, e4, e5, e6] at hya0
            subst hya0
            clear e1 e2 e3 e4 e5 e6
            have bBA : Below wa.heap.size wa (wa.alloc (.cells #[.int .i64 kt, .bool it, .bool nt.neg, .string (txt nt.dig), .int .i64 nt.exp, .string (txt st), .slice pa lt ca, .slice qa mt da] 27)) := (Below.refl _ wa).alloc (Nat.le_refl _) _
            have hXa := (ka'.block _ lX).trans hXb
            have lXa := lt_of_heap hXa
            obtain ⟨x0, x1, x2, x3, x4, x5, x6, x7⟩ := eight hXa
            have hya := hya.below bBA
            have hxv := (hxv.below ka').below bBA
            go_wp2_with fail
            refine (SAME _ _ _ hya hxv).mono ?_
            rintro e wb ⟨rfl, kb'⟩
            go_wp2_with fail
            go_ret
            exact ⟨rfl, bwr.trans ((ka'.trans ((bBA.trans (kb'.mono bBA.size)).mono ka'.size)).mono bwr.size)⟩
end Go.Proofs.YtjekannajnkejaaDoor.Tre
