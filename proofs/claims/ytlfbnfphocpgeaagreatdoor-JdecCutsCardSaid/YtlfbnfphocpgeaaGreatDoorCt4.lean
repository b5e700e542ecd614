/- A part of what cuts_holds leans on (its texts, put together). Nothing is claimed here. -/
import Derived.Lib.Strings
import Derived.Lib.Bytealg
import Derived.Lib.IndexAny
import Derived.Lib.TrimByte
import Derived.Lib.Repeat
import Derived.Lib.Small
import Derived.Lib.ItoaNum
import Derived.Deep.QuietTactic
import Derived.BigQuiet
import Derived.Test.YtlfbnfphocpgeaaGreatDoorCt3
namespace Go.Proofs.YtlfbnfphocpgeaaGreatDoor.Jdec
open Go.RowKit Kit Txt
open Utf (nb)
open Tre (Val HoldF HoldP RowT RowC KsP)
set_option maxRecDepth 100000 in
set_option maxHeartbeats 4000000 in
theorem rmany_list {w : World} {l : List UInt8} {q K : Nat} {d : Int} (hl : l.length < 100000) (hq : q < l.length) (hnb : nb l q = 91) (hd0 : 0 ≤ d) (hd1 : d ≤ 1000)
    (hv : ∀ (wx : World) (p : Nat), p ≤ l.length → Calls Tryz.prog 22 #[.string (txt l), .int .i64 p, .int .i64 (d + 1)] wx fun e w' => TellE (HoldF wx.heap.size w') l.length (value K (l.drop p)) e ∧ Below wx.heap.size wx w') :
    Calls Tryz.prog 39 #[.string (txt l), .int .i64 q, .int .i64 d] w fun e w' => TellE (HoldF w.heap.size w') l.length (many (value K) (l.drop q)) e ∧ Below w.heap.size w w' := by
  have hs := txt_size l
  have hix := idx hq
  rw [hnb] at hix
  have hst := many_start (val := value K) (l := l) (q := q) (obj := false) hnb
  have hwq : IntKind.i64.wrap ((q : Int) + 1) = (q : Int) + 1 := by simp only [IntKind.wrap, IntKind.signed, IntKind.bits]; simp; omega
  have hwd : IntKind.i64.wrap (d + 1) = d + 1 := by simp only [IntKind.wrap, IntKind.signed, IntKind.bits]; simp; omega
  have hbl : ∀ (wx : World) (i : Nat), i ≤ l.length → Calls Tryz.prog 23 #[.string (txt l), .int .i64 i] wx fun e w' => e = .returned (.int .i64 (skipAt l i)) ∧ w' = wx := fun wx i hi => rblanks_any (w := wx) hl hi
  have hbl1 : ∀ (wx : World) (i : Nat), i < l.length → Calls Tryz.prog 23 #[.string (txt l), .int .i64 ((i : Int) + 1)] wx fun e w' => e = .returned (.int .i64 (skipAt l (i + 1))) ∧ w' = wx := fun wx i hi => by
    have := hbl wx (i + 1) (by omega)
    rwa [Int.natCast_add] at this
  have hbh : ∀ (wx : World) (j : Nat), Calls Tryz.prog 58 #[.string (txt l), .int .i64 j] wx fun e w' => e = .returned (badV j (hereE l j)) ∧ Below wx.heap.size wx w' := fun wx j => rhere_any (w := wx) (l := l) (q := j)
  simp only [badV] at hbh
  have hvg := value_good K
  obtain ⟨W0, hW0⟩ : ∃ W0, ((w.alloc (.cells #[.int .i64 0, .bool false, .bool false, .string ⟨#[]⟩, .int .i64 0, .string ⟨#[]⟩, .slice none 0 0, .slice none 0 0, .int .i64 0, .int .i64 0, .int .i64 0] 31)).alloc (.cells #[.int .i64 5, .bool false, .bool false, .string ⟨#[]⟩, .int .i64 0, .string ⟨#[]⟩, .slice none 0 0, .slice none 0 0] 29)) = W0 := ⟨_, rfl⟩
  have hB0 := new_of (World.alloc_heap_new w (.cells #[.int .i64 0, .bool false, .bool false, .string ⟨#[]⟩, .int .i64 0, .string ⟨#[]⟩, .slice none 0 0, .slice none 0 0, .int .i64 0, .int .i64 0, .int .i64 0] 31)) (.cells #[.int .i64 5, .bool false, .bool false, .string ⟨#[]⟩, .int .i64 0, .string ⟨#[]⟩, .slice none 0 0, .slice none 0 0] 29)
  have hV0 := World.alloc_heap_new (w.alloc (.cells #[.int .i64 0, .bool false, .bool false, .string ⟨#[]⟩, .int .i64 0, .string ⟨#[]⟩, .slice none 0 0, .slice none 0 0, .int .i64 0, .int .i64 0, .int .i64 0] 31)) (.cells #[.int .i64 5, .bool false, .bool false, .string ⟨#[]⟩, .int .i64 0, .string ⟨#[]⟩, .slice none 0 0, .slice none 0 0] 29)
  rw [World.size_alloc] at hV0
  have bW : Below w.heap.size w ((w.alloc (.cells #[.int .i64 0, .bool false, .bool false, .string ⟨#[]⟩, .int .i64 0, .string ⟨#[]⟩, .slice none 0 0, .slice none 0 0, .int .i64 0, .int .i64 0, .int .i64 0] 31)).alloc (.cells #[.int .i64 5, .bool false, .bool false, .string ⟨#[]⟩, .int .i64 0, .string ⟨#[]⟩, .slice none 0 0, .slice none 0 0] 29)) := ((Below.refl _ w).alloc (Nat.le_refl _) _).alloc (by simp) _
  have hM0 : Mid w.heap.size false (.slice none 0 0) [] (.slice none 0 0) [] [] W0 ∧ Below w.heap.size w W0 := by
    rw [← hW0]
    exact ⟨Mid.first false (by simp) hB0 hV0, bW⟩
  generalize hgg : many (value K) (l.drop q) = gg at *
  have HM0 := Lib.hid hM0
  have HW := Lib.hid hW0
  have HST := Lib.hid hst
  have HBL := Lib.hid hbl
  have HBL1 := Lib.hid hbl1
  have HBH := Lib.hid hbh
  have HV := Lib.hid hv
  have HVG := Lib.hid hvg
  clear hM0 hW0 hst hbl hbl1 hbh hv hvg hgg bW hB0 hV0 hnb
  go_enter Tryz.func39, Tryz.ntmps39
  go_wp2_with fail
  rw [HW.out]
  refine (HBL1.out _ q hq).mono ?_
  rintro e w2 ⟨rfl, rfl⟩
  obtain ⟨i0, hi0⟩ : ∃ i0, skipAt l (q + 1) = i0 := ⟨_, rfl⟩
  have hst := HST.out
  rw [hi0] at hst ⊢
  have hi0l : i0 ≤ l.length := by rw [← hi0]; exact skipAt_le l _
  clear HST HW hi0 hix
  by_cases hcl : nb l i0 = 93
  · have hlt : i0 < l.length := nb_ne hcl (by decide)
    have hlt' : (i0 : Int) < (l.length : Int) := by omega
    have hix := idx hlt
    rw [hcl] at hix
    rw [if_pos (show nb l i0 = (close false).toNat from hcl)] at hst
    have hwi : IntKind.i64.wrap ((i0 : Int) + 1) = (i0 : Int) + 1 := by simp only [IntKind.wrap, IntKind.signed, IntKind.bits]; simp; omega
    have hM := HM0.out.1
    have HF := Lib.hid fun (C : Value → Val → Prop) (p : Int) (hC : C (.agg #[.int .i64 5, .bool false, .bool false, .string ⟨#[]⟩, .int .i64 0, .string ⟨#[]⟩, .slice none 0 0, .slice none 0 0]) (made false [] [])) => TellE.good (C := C) (n := l.length) (a := (i0 : Int) + 1) (p := p) hst (by rw [List.length_drop]; omega) hC
    have hval : w2.heap[w.heap.size + 1]? = some (.cells #[.int .i64 5, .bool false, .bool false, .string ⟨#[]⟩, .int .i64 0, .string ⟨#[]⟩, .slice none 0 0, .slice none 0 0] 29 (0, 0)) := hM.val
    obtain ⟨d0, d1, d2, d3, d4, d5, d6, d7⟩ := Tre.eight hval
    have HH := Lib.hid (holdF_set11 (made_holdF false hM.T hM.C (Nat.le_refl _)) (show w.heap.size < w.heap.size + 2 by omega) (show w.heap.size ≤ w.heap.size + 2 by omega) (.int .i64 5) (.bool false) (.bool false) (.string ⟨#[]⟩) (.int .i64 0) (.string ⟨#[]⟩) (.slice none 0 0) (.slice none 0 0) (.int .i64 ((i0 : Int) + 1)) (.int .i64 0) (.int .i64 0))
    have hgot := hM.got
    have hbel := HM0.out.2
    have hlg := lt_of_heap hgot
    have hlv := lt_of_heap hval
    clear hst HM0 HBL HBL1 HBH HV HVG hM hval hcl
    have h9 := set11 hgot (.int .i64 5) (.bool false) (.bool false) (.string ⟨#[]⟩) (.int .i64 0) (.string ⟨#[]⟩) (.slice none 0 0) (.slice none 0 0) (.int .i64 ((i0 : Int) + 1)) (.int .i64 0) (.int .i64 0)
    have b9 := below11 hbel (Nat.le_refl _) (.int .i64 5) (.bool false) (.bool false) (.string ⟨#[]⟩) (.int .i64 0) (.string ⟨#[]⟩) (.slice none 0 0) (.slice none 0 0) (.int .i64 ((i0 : Int) + 1)) (.int .i64 0) (.int .i64 0)
    obtain ⟨z0, z1, z2, z3, z4, z5, z6, z7, z8, z9, z10⟩ := eleven h9
    obtain ⟨y0, y1, y2, y3, y4, y5, y6, y7, y8, y9, y10⟩ := eleven hgot
    have qf := free_of hgot
    clear h9
    go_wp2_with fail
    refine bodyPost_ret (v := .agg #[.int .i64 5, .bool false, .bool false, .string ⟨#[]⟩, .int .i64 0, .string ⟨#[]⟩, .slice none 0 0, .slice none 0 0, .int .i64 ((i0 : Int) + 1), .int .i64 0, .int .i64 0]) (by simp [results, Tryz.results39, go_sem, z0, z1, z2, z3, z4, z5, z6, z7, z8, z9, z10]) rfl ⟨HF.out _ _ HH.out, b9⟩
  rw [if_neg (show ¬ nb l i0 = (close false).toNat from hcl)] at hst
  have HSTI := Lib.hid hst
  clear hst
  by_cases hlt : i0 < l.length
  · have hlt' : (i0 : Int) < (l.length : Int) := by omega
    have hix := idx hlt
    have hcne : (((nb l i0 : Nat) : Int) == 93) = false := by simp; omega
    generalize nb l i0 = xi at *
    clear hcl
    go_wp2_with fail
    go_loopw [9] (fun z wr => ∃ (i : Nat) (uk : Value) (keys : List (List UInt8)) (uv : Value) (kids : List Val) (cs : List (List Value)), z = .int .i64 i ∧ i ≤ l.length ∧ gg = items (value K) false keys kids (l.drop i) ∧ keys.length ≤ i ∧ kids.length ≤ i ∧ Mid w.heap.size false uk keys uv kids cs wr ∧ Below w.heap.size w wr) (fun z _ => l.length - (intOf z).toNat)
    case atStart => exact ⟨i0, _, [], _, [], [], rfl, hi0l, HSTI.out, Nat.zero_le _, Nat.zero_le _, HM0.out.1, HM0.out.2⟩
    case round =>
      obtain ⟨i, uk, keys, uv, kids, cs, rfl, hi, hm, hkl, hkd, hM, hb⟩ := hrel
      clear HM0 HSTI
      obtain ⟨ak, ck, hak⟩ := Tre.rowT_slice hM.T
      subst hak
      generalize hkn : keys.length = kn at *
      generalize hdn : kids.length = dn at *
      have hval : wr.heap[w.heap.size + 1]? = some (.cells #[.int .i64 5, .bool false, .bool false, .string ⟨#[]⟩, .int .i64 0, .string ⟨#[]⟩, .slice ak kn ck, uv] 29 (0, 0)) := hM.val
      obtain ⟨v0, v1, v2, v3, v4, v5, v6, v7⟩ := Tre.eight hval
      have HMN := Lib.hid hm
      have HKN := Lib.hid hkn
      have HDN := Lib.hid hdn
      have HMM := Lib.hid hM
      have HB := Lib.hid hb
      have hlv := lt_of_heap hval
      clear hm hkn hdn hM hb hval
      have HPT2 := Lib.hid (part_lst (value K) keys (l.drop i))
      go_wp2_with fail
      refine (HV.out wr i hi).mono ?_
      rintro e w6 ⟨⟨k0, b0, b1, dd, x0, tt, a1, n1', m1, a2, n2', m2, aa, pp, kk, rfl, hcase⟩, k6⟩
      have hN6 := World.alloc_heap_new w6 (.cells #[.int .i64 k0, .bool b0, .bool b1, .string dd, .int .i64 x0, .string tt, .slice a1 n1' m1, .slice a2 n2' m2, .int .i64 aa, .int .i64 pp, .int .i64 kk] 31)
      obtain ⟨W6, hW6⟩ : ∃ W6, w6.alloc (.cells #[.int .i64 k0, .bool b0, .bool b1, .string dd, .int .i64 x0, .string tt, .slice a1 n1' m1, .slice a2 n2' m2, .int .i64 aa, .int .i64 pp, .int .i64 kk] 31) = W6 := ⟨_, rfl⟩
      have k66 : Below w6.heap.size w6 W6 := by rw [← hW6]; exact (Below.refl _ w6).alloc (Nat.le_refl _) _
      rw [hW6] at hN6
      have hM6 := (HMM.out.below k6).below k66
      have b6 := (HB.out.trans (k6.mono HB.out.size)).trans (k66.mono (Nat.le_trans HB.out.size k6.size))
      have hneM : ¬ w6.heap.size = w.heap.size + 1 := by have := (HMM.out.below k6).base; omega
      have hltM : w.heap.size + 1 < w6.heap.size := by have := (HMM.out.below k6).base; omega
      have HN6 := Lib.hid hN6
      have HM6 := Lib.hid hM6
      have HB6 := Lib.hid b6
      have HW6 := Lib.hid hW6
      have HC6 := Lib.hid hcase
      have HK6 := Lib.hid k6
      have HK66 := Lib.hid k66
      clear hW6 hM6 b6 k6 k66 hN6 hcase v0 v1 v2 v3 v4 v5 v6 v7
      go_upto_region 16 with fail
      rw [HW6.out]
      clear HW6
      obtain ⟨u0, u1, u2, u3, u4, u5, u6, u7, u8, u9, u10⟩ := eleven HN6.out
      have hlM := lt_of_heap HN6.out
      rcases HC6.out with ⟨x, r2, hve, ha, rfl, hhold⟩ | ⟨⟨r2, j, hve⟩, hkne⟩
      rotate_left
      · have hk1 : (kk != 0) = true := by simpa using hkne
        have hno : gg = .no r2 j := by
          rw [HMN.out]
          refine items_no (value K) false ?_
          rw [HPT2.out, hve]
        have HF := Lib.hid fun (C : Value → Val → Prop) => TellE.bad2 (C := C) (n := l.length) hno hkne k0 b0 b1 dd x0 tt a1 n1' m1 a2 n2' m2 aa pp
        have hgot := HM6.out.got
        have hbel := HB6.out
        clear hno hve hkne
        have h9 := set11 hgot (.int .i64 k0) (.bool b0) (.bool b1) (.string dd) (.int .i64 x0) (.string tt) (.slice a1 n1' m1) (.slice a2 n2' m2) (.int .i64 aa) (.int .i64 pp) (.int .i64 kk)
        have b9 := below11 hbel (Nat.le_refl _) (.int .i64 k0) (.bool b0) (.bool b1) (.string dd) (.int .i64 x0) (.string tt) (.slice a1 n1' m1) (.slice a2 n2' m2) (.int .i64 aa) (.int .i64 pp) (.int .i64 kk)
        obtain ⟨z0, z1, z2, z3, z4, z5, z6, z7, z8, z9, z10⟩ := eleven h9
        obtain ⟨y0, y1, y2, y3, y4, y5, y6, y7, y8, y9, y10⟩ := eleven hgot
        have qf := free_of hgot
        clear h9
        go_wp2_with fail
        refine bodyPost_ret (v := .agg #[.int .i64 k0, .bool b0, .bool b1, .string dd, .int .i64 x0, .string tt, .slice a1 n1' m1, .slice a2 n2' m2, .int .i64 aa, .int .i64 pp, .int .i64 kk]) (by simp [results, Tryz.results39, go_sem, z0, z1, z2, z3, z4, z5, z6, z7, z8, z9, z10]) rfl ⟨HF.out _, b9⟩
      have hpart : part (value K) false keys (l.drop i) = .ok (keys, x) r2 := by rw [HPT2.out, hve]
      have hio := items_ok (kids := kids) HVG.out hpart
      have hgrow := items_grow HVG.out hpart
      have hsf := suf_items HVG.out hpart (List.drop_suffix _ _)
      have hrl2 := hsf.length_le
      have hdp2 : l.drop (l.length - r2.length) = r2 := drop_suf hsf
      obtain ⟨p2, hp2⟩ : ∃ p2, l.length - r2.length = p2 := ⟨_, rfl⟩
      rw [hp2] at hdp2 ha hgrow
      subst ha
      have hp2l : p2 ≤ l.length := by omega
      rw [← hdp2, ← skipAt_drop, after_item] at hio
      have hjl := skipAt_le l p2
      have hjg := skipAt_ge (l := l) hp2l
      have HBLP := Lib.hid (fun wx => HBL.out wx p2 hp2l)
      generalize skipAt l p2 = j at *
      have HAFT := Lib.hid (HMN.out.trans hio)
      have HHOLD := Lib.hid hhold
      have hdnb : dn < 1000000 := by omega
      have hval6 : W6.heap[w.heap.size + 1]? = some (.cells #[.int .i64 5, .bool false, .bool false, .string ⟨#[]⟩, .int .i64 0, .string ⟨#[]⟩, .slice ak kn ck, uv] 29 (0, 0)) := HM6.out.val
      obtain ⟨y0, y1, y2, y3, y4, y5, y6, y7⟩ := Tre.eight hval6
      have hlV6 := lt_of_heap hval6
      have HV6 := Lib.hid hval6
      clear hve hpart hio hsf hrl2 hdp2 hp2 hhold hval6 HMN HPT2 HC6
      go_wp2_with (at_builtin; go_loud (refine Tre.wp_push (by rfl) _ _ (by rfl) (w.heap.size + 2) wr.heap.size (v := x) (c := [.int .i64 k0, .bool b0, .bool b1, .string dd, .int .i64 x0, .string tt, .slice a1 n1' m1, .slice a2 n2' m2]) HDN.out (by rfl) (by rfl) (new8R W6 _ rfl) (HM6.out.C.below ((Below.refl _ W6).alloc (Nat.le_refl _) _)) (HoldP.keep (by simp) (fun g _ hlt => Below.heap_alloc _ _ _ hlt) _ (holdF_cells (HHOLD.out.below HK66.out))) HMM.out.base (fun g e => (HMM.out.C.own_lt g e).2) (fun g e => (Tre.rowT_lt HMM.out.T g e).2) hdnb (by have := HM6.out.base; simp; omega) ?_))
      intro g2 cap2 w7 hC7 hg7
      have bT7 : Below W6.heap.size W6 (W6.alloc (.cells #[.int .i64 k0, .bool b0, .bool b1, .string dd, .int .i64 x0, .string tt, .slice a1 n1' m1, .slice a2 n2' m2] 29)) := (Below.refl _ W6).alloc (Nat.le_refl _) _
      have hM7 := (HM6.out.below bT7).kids hC7 hg7
      have hlo7 : ∀ x, uv.ownBlock = some x → w.heap.size + 2 ≤ x ∧ x < wr.heap.size := HMM.out.C.own_lt
      have hsz : wr.heap.size ≤ w6.heap.size := HK6.out.size
      have hb7 : Below w.heap.size w (w7.setCell ⟨w.heap.size + 1, 7, none⟩ (.slice (some ⟨g2, 0, none⟩) (dn + 1) cap2)) := ((HB6.out.trans (bT7.mono HB6.out.size)).grown hg7 (by have := HB6.out.size; simp; omega) (fun k e => by have := (hlo7 k e).1; omega)).setCell (p := ⟨w.heap.size + 1, 7, none⟩) (by dsimp only; omega) _
      have hv7 := (hg7.block (w.heap.size + 1) (by simp; omega) (fun e => by have := (hlo7 _ e.symm).1; omega)).trans ((bT7.block _ hlV6).trans HV6.out)
      have hN7 := (hg7.block w6.heap.size (by simp; omega) (fun e => by have := (hlo7 _ e.symm).2; omega)).trans ((bT7.block _ hlM).trans HN6.out)
      have q7 := cell_of hv7 7
      have qf7 := free_of hv7 7
      have hN8 := (Tre.setc_other (i := 7) (.slice (some ⟨g2, 0, none⟩) (dn + 1) cap2) hneM).trans hN7
      obtain ⟨W7, hW7⟩ : ∃ W7, w7.setCell ⟨w.heap.size + 1, 7, none⟩ (.slice (some ⟨g2, 0, none⟩) (dn + 1) cap2) = W7 := ⟨_, rfl⟩
      rw [hW7] at hM7 hb7 hN8
      have HW7 := Lib.hid hW7
      have HM7 := Lib.hid hM7
      have HB7 := Lib.hid hb7
      have HN8 := Lib.hid hN8
      clear hW7 hM7 hb7 hN8 hN7 hv7 hlo7 hC7 hg7 bT7 HV6 HN6 HM6 HB6 HMM HB u0 u1 u2 u3 u4 u5 u6 u7 u8 u9 u10 y0 y1 y2 y3 y4 y5 y6 y7 hlV6 hlM HK6 HK66 HHOLD
      go_upto_region 19 with fail
      rw [HW7.out]
      clear HW7 q7 qf7
      obtain ⟨u0, u1, u2, u3, u4, u5, u6, u7, u8, u9, u10⟩ := eleven HN8.out
      go_wp2_with fail
      refine (HBLP.out _).mono ?_
      rintro e w8 ⟨rfl, rfl⟩
      clear u0 u1 u2 u3 u4 u5 u6 u7 u8 u9 u10 HBLP HN8
      by_cases hjc : nb l j = 93
      · have hjlt : j < l.length := nb_ne hjc (by decide)
        have hjlt' : (j : Int) < (l.length : Int) := by omega
        have hixj := idx hjlt
        rw [hjc] at hixj
        have haft := HAFT.out
        rw [if_pos (show nb l j = (close false).toNat from hjc)] at haft
        have hwj : IntKind.i64.wrap ((j : Int) + 1) = (j : Int) + 1 := by simp only [IntKind.wrap, IntKind.signed, IntKind.bits]; simp; omega
        have HF := Lib.hid fun (C : Value → Val → Prop) (p : Int) (hC : C (.agg #[.int .i64 5, .bool false, .bool false, .string ⟨#[]⟩, .int .i64 0, .string ⟨#[]⟩, .slice ak kn ck, .slice (some ⟨g2, 0, none⟩) (dn + 1) cap2]) (made false keys (kids ++ [x]))) => TellE.good (C := C) (n := l.length) (a := (j : Int) + 1) (p := p) haft (by rw [List.length_drop]; omega) hC
        have hval : w8.heap[w.heap.size + 1]? = some (.cells #[.int .i64 5, .bool false, .bool false, .string ⟨#[]⟩, .int .i64 0, .string ⟨#[]⟩, .slice ak kn ck, .slice (some ⟨g2, 0, none⟩) (dn + 1) cap2] 29 (0, 0)) := HM7.out.val
        obtain ⟨d0, d1, d2, d3, d4, d5, d6, d7⟩ := Tre.eight hval
        have HH := Lib.hid (holdF_set11 (made_holdF false HM7.out.T HM7.out.C (Nat.le_refl _)) (show w.heap.size < w.heap.size + 2 by omega) (show w.heap.size ≤ w.heap.size + 2 by omega) (.int .i64 5) (.bool false) (.bool false) (.string ⟨#[]⟩) (.int .i64 0) (.string ⟨#[]⟩) (.slice ak kn ck) (.slice (some ⟨g2, 0, none⟩) (dn + 1) cap2) (.int .i64 ((j : Int) + 1)) (.int .i64 0) (.int .i64 0))
        have hgot := HM7.out.got
        have hbel := HB7.out
        have hlg := lt_of_heap hgot
        have hlv := lt_of_heap hval
        clear haft HAFT HM7 HB7 hval hjc HBL HBL1 HBH HV HVG
        have h9 := set11 hgot (.int .i64 5) (.bool false) (.bool false) (.string ⟨#[]⟩) (.int .i64 0) (.string ⟨#[]⟩) (.slice ak kn ck) (.slice (some ⟨g2, 0, none⟩) (dn + 1) cap2) (.int .i64 ((j : Int) + 1)) (.int .i64 0) (.int .i64 0)
        have b9 := below11 hbel (Nat.le_refl _) (.int .i64 5) (.bool false) (.bool false) (.string ⟨#[]⟩) (.int .i64 0) (.string ⟨#[]⟩) (.slice ak kn ck) (.slice (some ⟨g2, 0, none⟩) (dn + 1) cap2) (.int .i64 ((j : Int) + 1)) (.int .i64 0) (.int .i64 0)
        obtain ⟨z0, z1, z2, z3, z4, z5, z6, z7, z8, z9, z10⟩ := eleven h9
        obtain ⟨y0, y1, y2, y3, y4, y5, y6, y7, y8, y9, y10⟩ := eleven hgot
        have qf := free_of hgot
        clear h9
        go_wp2_with fail
        refine bodyPost_ret (v := .agg #[.int .i64 5, .bool false, .bool false, .string ⟨#[]⟩, .int .i64 0, .string ⟨#[]⟩, .slice ak kn ck, .slice (some ⟨g2, 0, none⟩) (dn + 1) cap2, .int .i64 ((j : Int) + 1), .int .i64 0, .int .i64 0]) (by simp [results, Tryz.results39, go_sem, z0, z1, z2, z3, z4, z5, z6, z7, z8, z9, z10]) rfl ⟨HF.out _ _ HH.out, b9⟩
      have hneg : ¬ nb l j = (close false).toNat := hjc
      by_cases hjlt : j < l.length
      · have hjlt' : (j : Int) < (l.length : Int) := by omega
        have hjd : decide (l.length ≤ j) = false := decide_eq_false (by omega)
        have hjd' : ¬ (l.length : Int) ≤ (j : Int) := by omega
        have hixj := idx hjlt
        have hcne : (((nb l j : Nat) : Int) == 93) = false := by simp; omega
        by_cases h44 : nb l j = 44
        · have haft := HAFT.out
          rw [if_neg hneg, if_neg (by simpa using h44)] at haft
          have hwj : IntKind.i64.wrap ((j : Int) + 1) = (j : Int) + 1 := by simp only [IntKind.wrap, IntKind.signed, IntKind.bits]; simp; omega
          have hcm : (((nb l j : Nat) : Int) != 44) = false := by simp [h44]
          have HAF := Lib.hid haft
          have hnl := skipAt_le l (j + 1)
          have hng := skipAt_ge (l := l) (show j + 1 ≤ l.length by omega)
          have HBJ := Lib.hid (fun wx => HBL1.out wx j hjlt)
          rw [h44] at hixj
          clear haft HAFT h44 hneg hcne hcm hjc
          go_wp2_with fail
          refine (HBJ.out _).mono ?_
          rintro e w9 ⟨rfl, rfl⟩
          generalize skipAt l (j + 1) = i2 at *
          go_wp2_with fail
          go_roundw
          case rel => exact ⟨i2, _, _, _, _, _, rfl, hnl, HAF.out, by rw [HKN.out]; omega, by rw [List.length_append, HDN.out]; simp; omega, HM7.out, HB7.out⟩
          case measure => simp [intOf]; omega
        · have hcm : (((nb l j : Nat) : Int) != 44) = true := by simp; omega
          generalize hnj : nb l j = xj at *
          have HNG := Lib.hid hneg
          have H44 := Lib.hid h44
          clear hneg h44 hjc hnj
          obtain ⟨r3, j3, hno⟩ := here_no (α := Val) (l.drop j)
          have hno2 : gg = .no r3 j3 := by rw [HAFT.out, if_neg HNG.out, if_pos H44.out]; exact hno
          have hE := here_ne l j
          have hbh := fun wx => HBH.out wx j
          generalize hereE l j = ee at *
          have HF := Lib.hid fun (C : Value → Val → Prop) => TellE.bad2 (C := C) (n := l.length) hno2 hE 0 false false ⟨#[]⟩ 0 ⟨#[]⟩ none 0 0 none 0 0 0 j
          have HBHJ := Lib.hid hbh
          clear hno hno2 hE hbh
          go_wp2_with fail
          refine (HBHJ.out _).mono ?_
          rintro e w9 ⟨rfl, k9⟩
          have hgot := (k9.block _ (lt_of_heap HM7.out.got)).trans HM7.out.got
          have hbel := HB7.out.trans (k9.mono HB7.out.size)
          clear k9
          have h9 := set11 hgot (.int .i64 0) (.bool false) (.bool false) (.string ⟨#[]⟩) (.int .i64 0) (.string ⟨#[]⟩) (.slice none 0 0) (.slice none 0 0) (.int .i64 0) (.int .i64 j) (.int .i64 ee)
          have b9 := below11 hbel (Nat.le_refl _) (.int .i64 0) (.bool false) (.bool false) (.string ⟨#[]⟩) (.int .i64 0) (.string ⟨#[]⟩) (.slice none 0 0) (.slice none 0 0) (.int .i64 0) (.int .i64 j) (.int .i64 ee)
          obtain ⟨z0, z1, z2, z3, z4, z5, z6, z7, z8, z9, z10⟩ := eleven h9
          obtain ⟨y0, y1, y2, y3, y4, y5, y6, y7, y8, y9, y10⟩ := eleven hgot
          have qf := free_of hgot
          clear h9
          go_wp2_with fail
          refine bodyPost_ret (v := .agg #[.int .i64 0, .bool false, .bool false, .string ⟨#[]⟩, .int .i64 0, .string ⟨#[]⟩, .slice none 0 0, .slice none 0 0, .int .i64 0, .int .i64 j, .int .i64 ee]) (by simp [results, Tryz.results39, go_sem, z0, z1, z2, z3, z4, z5, z6, z7, z8, z9, z10]) rfl ⟨HF.out _, b9⟩
      · have hjd : decide (j < l.length) = false := decide_eq_false hjlt
        have hjd2 : decide (l.length ≤ j) = true := decide_eq_true (by omega)
        have hjd3 : (l.length : Int) ≤ (j : Int) := by omega
        have h44 : nb l j ≠ 44 := by rw [nb_past (by omega)]; decide
        have HNG := Lib.hid hneg
        have H44 := Lib.hid h44
        clear hneg h44 hjc
        obtain ⟨r3, j3, hno⟩ := here_no (α := Val) (l.drop j)
        have hno2 : gg = .no r3 j3 := by rw [HAFT.out, if_neg HNG.out, if_pos H44.out]; exact hno
        have hE := here_ne l j
        have hbh := fun wx => HBH.out wx j
        generalize hereE l j = ee at *
        have HF := Lib.hid fun (C : Value → Val → Prop) => TellE.bad2 (C := C) (n := l.length) hno2 hE 0 false false ⟨#[]⟩ 0 ⟨#[]⟩ none 0 0 none 0 0 0 j
        have HBHJ := Lib.hid hbh
        clear hno hno2 hE hbh
        go_wp2_with fail
        refine (HBHJ.out _).mono ?_
        rintro e w9 ⟨rfl, k9⟩
        have hgot := (k9.block _ (lt_of_heap HM7.out.got)).trans HM7.out.got
        have hbel := HB7.out.trans (k9.mono HB7.out.size)
        clear k9
        have h9 := set11 hgot (.int .i64 0) (.bool false) (.bool false) (.string ⟨#[]⟩) (.int .i64 0) (.string ⟨#[]⟩) (.slice none 0 0) (.slice none 0 0) (.int .i64 0) (.int .i64 j) (.int .i64 ee)
        have b9 := below11 hbel (Nat.le_refl _) (.int .i64 0) (.bool false) (.bool false) (.string ⟨#[]⟩) (.int .i64 0) (.string ⟨#[]⟩) (.slice none 0 0) (.slice none 0 0) (.int .i64 0) (.int .i64 j) (.int .i64 ee)
        obtain ⟨z0, z1, z2, z3, z4, z5, z6, z7, z8, z9, z10⟩ := eleven h9
        obtain ⟨y0, y1, y2, y3, y4, y5, y6, y7, y8, y9, y10⟩ := eleven hgot
        have qf := free_of hgot
        clear h9
        go_wp2_with fail
        refine bodyPost_ret (v := .agg #[.int .i64 0, .bool false, .bool false, .string ⟨#[]⟩, .int .i64 0, .string ⟨#[]⟩, .slice none 0 0, .slice none 0 0, .int .i64 0, .int .i64 j, .int .i64 ee]) (by simp [results, Tryz.results39, go_sem, z0, z1, z2, z3, z4, z5, z6, z7, z8, z9, z10]) rfl ⟨HF.out _, b9⟩
  · have hg1 : decide (i0 < l.length) = false := decide_eq_false hlt
    clear hcl
    go_wp2_with fail
    go_loopw [9] (fun z wr => ∃ (i : Nat) (uk : Value) (keys : List (List UInt8)) (uv : Value) (kids : List Val) (cs : List (List Value)), z = .int .i64 i ∧ i ≤ l.length ∧ gg = items (value K) false keys kids (l.drop i) ∧ keys.length ≤ i ∧ kids.length ≤ i ∧ Mid w.heap.size false uk keys uv kids cs wr ∧ Below w.heap.size w wr) (fun z _ => l.length - (intOf z).toNat)
    case atStart => exact ⟨i0, _, [], _, [], [], rfl, hi0l, HSTI.out, Nat.zero_le _, Nat.zero_le _, HM0.out.1, HM0.out.2⟩
    case round =>
      obtain ⟨i, uk, keys, uv, kids, cs, rfl, hi, hm, hkl, hkd, hM, hb⟩ := hrel
      clear HM0 HSTI
      obtain ⟨ak, ck, hak⟩ := Tre.rowT_slice hM.T
      subst hak
      generalize hkn : keys.length = kn at *
      generalize hdn : kids.length = dn at *
      have hval : wr.heap[w.heap.size + 1]? = some (.cells #[.int .i64 5, .bool false, .bool false, .string ⟨#[]⟩, .int .i64 0, .string ⟨#[]⟩, .slice ak kn ck, uv] 29 (0, 0)) := hM.val
      obtain ⟨v0, v1, v2, v3, v4, v5, v6, v7⟩ := Tre.eight hval
      have HMN := Lib.hid hm
      have HKN := Lib.hid hkn
      have HDN := Lib.hid hdn
      have HMM := Lib.hid hM
      have HB := Lib.hid hb
      have hlv := lt_of_heap hval
      clear hm hkn hdn hM hb hval
      have HPT2 := Lib.hid (part_lst (value K) keys (l.drop i))
      go_wp2_with fail
      refine (HV.out wr i hi).mono ?_
      rintro e w6 ⟨⟨k0, b0, b1, dd, x0, tt, a1, n1', m1, a2, n2', m2, aa, pp, kk, rfl, hcase⟩, k6⟩
      have hN6 := World.alloc_heap_new w6 (.cells #[.int .i64 k0, .bool b0, .bool b1, .string dd, .int .i64 x0, .string tt, .slice a1 n1' m1, .slice a2 n2' m2, .int .i64 aa, .int .i64 pp, .int .i64 kk] 31)
      obtain ⟨W6, hW6⟩ : ∃ W6, w6.alloc (.cells #[.int .i64 k0, .bool b0, .bool b1, .string dd, .int .i64 x0, .string tt, .slice a1 n1' m1, .slice a2 n2' m2, .int .i64 aa, .int .i64 pp, .int .i64 kk] 31) = W6 := ⟨_, rfl⟩
      have k66 : Below w6.heap.size w6 W6 := by rw [← hW6]; exact (Below.refl _ w6).alloc (Nat.le_refl _) _
      rw [hW6] at hN6
      have hM6 := (HMM.out.below k6).below k66
      have b6 := (HB.out.trans (k6.mono HB.out.size)).trans (k66.mono (Nat.le_trans HB.out.size k6.size))
      have hneM : ¬ w6.heap.size = w.heap.size + 1 := by have := (HMM.out.below k6).base; omega
      have hltM : w.heap.size + 1 < w6.heap.size := by have := (HMM.out.below k6).base; omega
      have HN6 := Lib.hid hN6
      have HM6 := Lib.hid hM6
      have HB6 := Lib.hid b6
      have HW6 := Lib.hid hW6
      have HC6 := Lib.hid hcase
      have HK6 := Lib.hid k6
      have HK66 := Lib.hid k66
      clear hW6 hM6 b6 k6 k66 hN6 hcase v0 v1 v2 v3 v4 v5 v6 v7
      go_upto_region 16 with fail
      rw [HW6.out]
      clear HW6
      obtain ⟨u0, u1, u2, u3, u4, u5, u6, u7, u8, u9, u10⟩ := eleven HN6.out
      have hlM := lt_of_heap HN6.out
      rcases HC6.out with ⟨x, r2, hve, ha, rfl, hhold⟩ | ⟨⟨r2, j, hve⟩, hkne⟩
      rotate_left
      · have hk1 : (kk != 0) = true := by simpa using hkne
        have hno : gg = .no r2 j := by
          rw [HMN.out]
          refine items_no (value K) false ?_
          rw [HPT2.out, hve]
        have HF := Lib.hid fun (C : Value → Val → Prop) => TellE.bad2 (C := C) (n := l.length) hno hkne k0 b0 b1 dd x0 tt a1 n1' m1 a2 n2' m2 aa pp
        have hgot := HM6.out.got
        have hbel := HB6.out
        clear hno hve hkne
        have h9 := set11 hgot (.int .i64 k0) (.bool b0) (.bool b1) (.string dd) (.int .i64 x0) (.string tt) (.slice a1 n1' m1) (.slice a2 n2' m2) (.int .i64 aa) (.int .i64 pp) (.int .i64 kk)
        have b9 := below11 hbel (Nat.le_refl _) (.int .i64 k0) (.bool b0) (.bool b1) (.string dd) (.int .i64 x0) (.string tt) (.slice a1 n1' m1) (.slice a2 n2' m2) (.int .i64 aa) (.int .i64 pp) (.int .i64 kk)
        obtain ⟨z0, z1, z2, z3, z4, z5, z6, z7, z8, z9, z10⟩ := eleven h9
        obtain ⟨y0, y1, y2, y3, y4, y5, y6, y7, y8, y9, y10⟩ := eleven hgot
        have qf := free_of hgot
        clear h9
        go_wp2_with fail
        refine bodyPost_ret (v := .agg #[.int .i64 k0, .bool b0, .bool b1, .string dd, .int .i64 x0, .string tt, .slice a1 n1' m1, .slice a2 n2' m2, .int .i64 aa, .int .i64 pp, .int .i64 kk]) (by simp [results, Tryz.results39, go_sem, z0, z1, z2, z3, z4, z5, z6, z7, z8, z9, z10]) rfl ⟨HF.out _, b9⟩
      have hpart : part (value K) false keys (l.drop i) = .ok (keys, x) r2 := by rw [HPT2.out, hve]
      have hio := items_ok (kids := kids) HVG.out hpart
      have hgrow := items_grow HVG.out hpart
      have hsf := suf_items HVG.out hpart (List.drop_suffix _ _)
      have hrl2 := hsf.length_le
      have hdp2 : l.drop (l.length - r2.length) = r2 := drop_suf hsf
      obtain ⟨p2, hp2⟩ : ∃ p2, l.length - r2.length = p2 := ⟨_, rfl⟩
      rw [hp2] at hdp2 ha hgrow
      subst ha
      have hp2l : p2 ≤ l.length := by omega
      rw [← hdp2, ← skipAt_drop, after_item] at hio
      have hjl := skipAt_le l p2
      have hjg := skipAt_ge (l := l) hp2l
      have HBLP := Lib.hid (fun wx => HBL.out wx p2 hp2l)
      generalize skipAt l p2 = j at *
      have HAFT := Lib.hid (HMN.out.trans hio)
      have HHOLD := Lib.hid hhold
      have hdnb : dn < 1000000 := by omega
      have hval6 : W6.heap[w.heap.size + 1]? = some (.cells #[.int .i64 5, .bool false, .bool false, .string ⟨#[]⟩, .int .i64 0, .string ⟨#[]⟩, .slice ak kn ck, uv] 29 (0, 0)) := HM6.out.val
      obtain ⟨y0, y1, y2, y3, y4, y5, y6, y7⟩ := Tre.eight hval6
      have hlV6 := lt_of_heap hval6
      have HV6 := Lib.hid hval6
      clear hve hpart hio hsf hrl2 hdp2 hp2 hhold hval6 HMN HPT2 HC6
      go_wp2_with (at_builtin; go_loud (refine Tre.wp_push (by rfl) _ _ (by rfl) (w.heap.size + 2) wr.heap.size (v := x) (c := [.int .i64 k0, .bool b0, .bool b1, .string dd, .int .i64 x0, .string tt, .slice a1 n1' m1, .slice a2 n2' m2]) HDN.out (by rfl) (by rfl) (new8R W6 _ rfl) (HM6.out.C.below ((Below.refl _ W6).alloc (Nat.le_refl _) _)) (HoldP.keep (by simp) (fun g _ hlt => Below.heap_alloc _ _ _ hlt) _ (holdF_cells (HHOLD.out.below HK66.out))) HMM.out.base (fun g e => (HMM.out.C.own_lt g e).2) (fun g e => (Tre.rowT_lt HMM.out.T g e).2) hdnb (by have := HM6.out.base; simp; omega) ?_))
      intro g2 cap2 w7 hC7 hg7
      have bT7 : Below W6.heap.size W6 (W6.alloc (.cells #[.int .i64 k0, .bool b0, .bool b1, .string dd, .int .i64 x0, .string tt, .slice a1 n1' m1, .slice a2 n2' m2] 29)) := (Below.refl _ W6).alloc (Nat.le_refl _) _
      have hM7 := (HM6.out.below bT7).kids hC7 hg7
      have hlo7 : ∀ x, uv.ownBlock = some x → w.heap.size + 2 ≤ x ∧ x < wr.heap.size := HMM.out.C.own_lt
      have hsz : wr.heap.size ≤ w6.heap.size := HK6.out.size
      have hb7 : Below w.heap.size w (w7.setCell ⟨w.heap.size + 1, 7, none⟩ (.slice (some ⟨g2, 0, none⟩) (dn + 1) cap2)) := ((HB6.out.trans (bT7.mono HB6.out.size)).grown hg7 (by have := HB6.out.size; simp; omega) (fun k e => by have := (hlo7 k e).1; omega)).setCell (p := ⟨w.heap.size + 1, 7, none⟩) (by dsimp only; omega) _
      have hv7 := (hg7.block (w.heap.size + 1) (by simp; omega) (fun e => by have := (hlo7 _ e.symm).1; omega)).trans ((bT7.block _ hlV6).trans HV6.out)
      have hN7 := (hg7.block w6.heap.size (by simp; omega) (fun e => by have := (hlo7 _ e.symm).2; omega)).trans ((bT7.block _ hlM).trans HN6.out)
      have q7 := cell_of hv7 7
      have qf7 := free_of hv7 7
      have hN8 := (Tre.setc_other (i := 7) (.slice (some ⟨g2, 0, none⟩) (dn + 1) cap2) hneM).trans hN7
      obtain ⟨W7, hW7⟩ : ∃ W7, w7.setCell ⟨w.heap.size + 1, 7, none⟩ (.slice (some ⟨g2, 0, none⟩) (dn + 1) cap2) = W7 := ⟨_, rfl⟩
      rw [hW7] at hM7 hb7 hN8
      have HW7 := Lib.hid hW7
      have HM7 := Lib.hid hM7
      have HB7 := Lib.hid hb7
      have HN8 := Lib.hid hN8
      clear hW7 hM7 hb7 hN8 hN7 hv7 hlo7 hC7 hg7 bT7 HV6 HN6 HM6 HB6 HMM HB u0 u1 u2 u3 u4 u5 u6 u7 u8 u9 u10 y0 y1 y2 y3 y4 y5 y6 y7 hlV6 hlM HK6 HK66 HHOLD
      go_upto_region 19 with fail
      rw [HW7.out]
      clear HW7 q7 qf7
      obtain ⟨u0, u1, u2, u3, u4, u5, u6, u7, u8, u9, u10⟩ := eleven HN8.out
      go_wp2_with fail
      refine (HBLP.out _).mono ?_
      rintro e w8 ⟨rfl, rfl⟩
      clear u0 u1 u2 u3 u4 u5 u6 u7 u8 u9 u10 HBLP HN8
      by_cases hjc : nb l j = 93
      · have hjlt : j < l.length := nb_ne hjc (by decide)
        have hjlt' : (j : Int) < (l.length : Int) := by omega
        have hixj := idx hjlt
        rw [hjc] at hixj
        have haft := HAFT.out
        rw [if_pos (show nb l j = (close false).toNat from hjc)] at haft
        have hwj : IntKind.i64.wrap ((j : Int) + 1) = (j : Int) + 1 := by simp only [IntKind.wrap, IntKind.signed, IntKind.bits]; simp; omega
        have HF := Lib.hid fun (C : Value → Val → Prop) (p : Int) (hC : C (.agg #[.int .i64 5, .bool false, .bool false, .string ⟨#[]⟩, .int .i64 0, .string ⟨#[]⟩, .slice ak kn ck, .slice (some ⟨g2, 0, none⟩) (dn + 1) cap2]) (made false keys (kids ++ [x]))) => TellE.good (C := C) (n := l.length) (a := (j : Int) + 1) (p := p) haft (by rw [List.length_drop]; omega) hC
        have hval : w8.heap[w.heap.size + 1]? = some (.cells #[.int .i64 5, .bool false, .bool false, .string ⟨#[]⟩, .int .i64 0, .string ⟨#[]⟩, .slice ak kn ck, .slice (some ⟨g2, 0, none⟩) (dn + 1) cap2] 29 (0, 0)) := HM7.out.val
        obtain ⟨d0, d1, d2, d3, d4, d5, d6, d7⟩ := Tre.eight hval
        have HH := Lib.hid (holdF_set11 (made_holdF false HM7.out.T HM7.out.C (Nat.le_refl _)) (show w.heap.size < w.heap.size + 2 by omega) (show w.heap.size ≤ w.heap.size + 2 by omega) (.int .i64 5) (.bool false) (.bool false) (.string ⟨#[]⟩) (.int .i64 0) (.string ⟨#[]⟩) (.slice ak kn ck) (.slice (some ⟨g2, 0, none⟩) (dn + 1) cap2) (.int .i64 ((j : Int) + 1)) (.int .i64 0) (.int .i64 0))
        have hgot := HM7.out.got
        have hbel := HB7.out
        have hlg := lt_of_heap hgot
        have hlv := lt_of_heap hval
        clear haft HAFT HM7 HB7 hval hjc HBL HBL1 HBH HV HVG
        have h9 := set11 hgot (.int .i64 5) (.bool false) (.bool false) (.string ⟨#[]⟩) (.int .i64 0) (.string ⟨#[]⟩) (.slice ak kn ck) (.slice (some ⟨g2, 0, none⟩) (dn + 1) cap2) (.int .i64 ((j : Int) + 1)) (.int .i64 0) (.int .i64 0)
        have b9 := below11 hbel (Nat.le_refl _) (.int .i64 5) (.bool false) (.bool false) (.string ⟨#[]⟩) (.int .i64 0) (.string ⟨#[]⟩) (.slice ak kn ck) (.slice (some ⟨g2, 0, none⟩) (dn + 1) cap2) (.int .i64 ((j : Int) + 1)) (.int .i64 0) (.int .i64 0)
        obtain ⟨z0, z1, z2, z3, z4, z5, z6, z7, z8, z9, z10⟩ := eleven h9
        obtain ⟨y0, y1, y2, y3, y4, y5, y6, y7, y8, y9, y10⟩ := eleven hgot
        have qf := free_of hgot
        clear h9
        go_wp2_with fail
        refine bodyPost_ret (v := .agg #[.int .i64 5, .bool false, .bool false, .string ⟨#[]⟩, .int .i64 0, .string ⟨#[]⟩, .slice ak kn ck, .slice (some ⟨g2, 0, none⟩) (dn + 1) cap2, .int .i64 ((j : Int) + 1), .int .i64 0, .int .i64 0]) (by simp [results, Tryz.results39, go_sem, z0, z1, z2, z3, z4, z5, z6, z7, z8, z9, z10]) rfl ⟨HF.out _ _ HH.out, b9⟩
      have hneg : ¬ nb l j = (close false).toNat := hjc
      by_cases hjlt : j < l.length
      · have hjlt' : (j : Int) < (l.length : Int) := by omega
        have hjd : decide (l.length ≤ j) = false := decide_eq_false (by omega)
        have hjd' : ¬ (l.length : Int) ≤ (j : Int) := by omega
        have hixj := idx hjlt
        have hcne : (((nb l j : Nat) : Int) == 93) = false := by simp; omega
        by_cases h44 : nb l j = 44
        · have haft := HAFT.out
          rw [if_neg hneg, if_neg (by simpa using h44)] at haft
          have hwj : IntKind.i64.wrap ((j : Int) + 1) = (j : Int) + 1 := by simp only [IntKind.wrap, IntKind.signed, IntKind.bits]; simp; omega
          have hcm : (((nb l j : Nat) : Int) != 44) = false := by simp [h44]
          have HAF := Lib.hid haft
          have hnl := skipAt_le l (j + 1)
          have hng := skipAt_ge (l := l) (show j + 1 ≤ l.length by omega)
          have HBJ := Lib.hid (fun wx => HBL1.out wx j hjlt)
          rw [h44] at hixj
          clear haft HAFT h44 hneg hcne hcm hjc
          go_wp2_with fail
          refine (HBJ.out _).mono ?_
          rintro e w9 ⟨rfl, rfl⟩
          generalize skipAt l (j + 1) = i2 at *
          go_wp2_with fail
          go_roundw
          case rel => exact ⟨i2, _, _, _, _, _, rfl, hnl, HAF.out, by rw [HKN.out]; omega, by rw [List.length_append, HDN.out]; simp; omega, HM7.out, HB7.out⟩
          case measure => simp [intOf]; omega
        · have hcm : (((nb l j : Nat) : Int) != 44) = true := by simp; omega
          generalize hnj : nb l j = xj at *
          have HNG := Lib.hid hneg
          have H44 := Lib.hid h44
          clear hneg h44 hjc hnj
          obtain ⟨r3, j3, hno⟩ := here_no (α := Val) (l.drop j)
          have hno2 : gg = .no r3 j3 := by rw [HAFT.out, if_neg HNG.out, if_pos H44.out]; exact hno
          have hE := here_ne l j
          have hbh := fun wx => HBH.out wx j
          generalize hereE l j = ee at *
          have HF := Lib.hid fun (C : Value → Val → Prop) => TellE.bad2 (C := C) (n := l.length) hno2 hE 0 false false ⟨#[]⟩ 0 ⟨#[]⟩ none 0 0 none 0 0 0 j
          have HBHJ := Lib.hid hbh
          clear hno hno2 hE hbh
          go_wp2_with fail
          refine (HBHJ.out _).mono ?_
          rintro e w9 ⟨rfl, k9⟩
          have hgot := (k9.block _ (lt_of_heap HM7.out.got)).trans HM7.out.got
          have hbel := HB7.out.trans (k9.mono HB7.out.size)
          clear k9
          have h9 := set11 hgot (.int .i64 0) (.bool false) (.bool false) (.string ⟨#[]⟩) (.int .i64 0) (.string ⟨#[]⟩) (.slice none 0 0) (.slice none 0 0) (.int .i64 0) (.int .i64 j) (.int .i64 ee)
          have b9 := below11 hbel (Nat.le_refl _) (.int .i64 0) (.bool false) (.bool false) (.string ⟨#[]⟩) (.int .i64 0) (.string ⟨#[]⟩) (.slice none 0 0) (.slice none 0 0) (.int .i64 0) (.int .i64 j) (.int .i64 ee)
          obtain ⟨z0, z1, z2, z3, z4, z5, z6, z7, z8, z9, z10⟩ := eleven h9
          obtain ⟨y0, y1, y2, y3, y4, y5, y6, y7, y8, y9, y10⟩ := eleven hgot
          have qf := free_of hgot
          clear h9
          go_wp2_with fail
          refine bodyPost_ret (v := .agg #[.int .i64 0, .bool false, .bool false, .string ⟨#[]⟩, .int .i64 0, .string ⟨#[]⟩, .slice none 0 0, .slice none 0 0, .int .i64 0, .int .i64 j, .int .i64 ee]) (by simp [results, Tryz.results39, go_sem, z0, z1, z2, z3, z4, z5, z6, z7, z8, z9, z10]) rfl ⟨HF.out _, b9⟩
      · have hjd : decide (j < l.length) = false := decide_eq_false hjlt
        have hjd2 : decide (l.length ≤ j) = true := decide_eq_true (by omega)
        have hjd3 : (l.length : Int) ≤ (j : Int) := by omega
        have h44 : nb l j ≠ 44 := by rw [nb_past (by omega)]; decide
        have HNG := Lib.hid hneg
        have H44 := Lib.hid h44
        clear hneg h44 hjc
        obtain ⟨r3, j3, hno⟩ := here_no (α := Val) (l.drop j)
        have hno2 : gg = .no r3 j3 := by rw [HAFT.out, if_neg HNG.out, if_pos H44.out]; exact hno
        have hE := here_ne l j
        have hbh := fun wx => HBH.out wx j
        generalize hereE l j = ee at *
        have HF := Lib.hid fun (C : Value → Val → Prop) => TellE.bad2 (C := C) (n := l.length) hno2 hE 0 false false ⟨#[]⟩ 0 ⟨#[]⟩ none 0 0 none 0 0 0 j
        have HBHJ := Lib.hid hbh
        clear hno hno2 hE hbh
        go_wp2_with fail
        refine (HBHJ.out _).mono ?_
        rintro e w9 ⟨rfl, k9⟩
        have hgot := (k9.block _ (lt_of_heap HM7.out.got)).trans HM7.out.got
        have hbel := HB7.out.trans (k9.mono HB7.out.size)
        clear k9
        have h9 := set11 hgot (.int .i64 0) (.bool false) (.bool false) (.string ⟨#[]⟩) (.int .i64 0) (.string ⟨#[]⟩) (.slice none 0 0) (.slice none 0 0) (.int .i64 0) (.int .i64 j) (.int .i64 ee)
        have b9 := below11 hbel (Nat.le_refl _) (.int .i64 0) (.bool false) (.bool false) (.string ⟨#[]⟩) (.int .i64 0) (.string ⟨#[]⟩) (.slice none 0 0) (.slice none 0 0) (.int .i64 0) (.int .i64 j) (.int .i64 ee)
        obtain ⟨z0, z1, z2, z3, z4, z5, z6, z7, z8, z9, z10⟩ := eleven h9
        obtain ⟨y0, y1, y2, y3, y4, y5, y6, y7, y8, y9, y10⟩ := eleven hgot
        have qf := free_of hgot
        clear h9
        go_wp2_with fail
        refine bodyPost_ret (v := .agg #[.int .i64 0, .bool false, .bool false, .string ⟨#[]⟩, .int .i64 0, .string ⟨#[]⟩, .slice none 0 0, .slice none 0 0, .int .i64 0, .int .i64 j, .int .i64 ee]) (by simp [results, Tryz.results39, go_sem, z0, z1, z2, z3, z4, z5, z6, z7, z8, z9, z10]) rfl ⟨HF.out _, b9⟩
end Go.Proofs.YtlfbnfphocpgeaaGreatDoor.Jdec
namespace Go.Proofs.YtlfbnfphocpgeaaGreatDoor.Jdec
open Go.RowKit Kit Txt
open Utf (nb)
open Tre (Val HoldF HoldP RowT RowC KsP)
set_option maxRecDepth 100000 in
set_option maxHeartbeats 4000000 in
theorem rmany_obj {w : World} {l : List UInt8} {q K : Nat} {d : Int} (hl : l.length < 100000) (hq : q < l.length) (hnb : nb l q = 123) (hd0 : 0 ≤ d) (hd1 : d ≤ 1000)
    (hv : ∀ (wx : World) (p : Nat), p ≤ l.length → Calls Tryz.prog 22 #[.string (txt l), .int .i64 p, .int .i64 (d + 1)] wx fun e w' => TellE (HoldF wx.heap.size w') l.length (value K (l.drop p)) e ∧ Below wx.heap.size wx w') :
    Calls Tryz.prog 39 #[.string (txt l), .int .i64 q, .int .i64 d] w fun e w' => TellE (HoldF w.heap.size w') l.length (many (value K) (l.drop q)) e ∧ Below w.heap.size w w' := by
  have hs := txt_size l
  have hix := idx hq
  rw [hnb] at hix
  have hst := many_start (val := value K) (l := l) (q := q) (obj := true) hnb
  have hwq : IntKind.i64.wrap ((q : Int) + 1) = (q : Int) + 1 := by simp only [IntKind.wrap, IntKind.signed, IntKind.bits]; simp; omega
  have hwd : IntKind.i64.wrap (d + 1) = d + 1 := by simp only [IntKind.wrap, IntKind.signed, IntKind.bits]; simp; omega
  have hbl : ∀ (wx : World) (i : Nat), i ≤ l.length → Calls Tryz.prog 23 #[.string (txt l), .int .i64 i] wx fun e w' => e = .returned (.int .i64 (skipAt l i)) ∧ w' = wx := fun wx i hi => rblanks_any (w := wx) hl hi
  have hbl1 : ∀ (wx : World) (i : Nat), i < l.length → Calls Tryz.prog 23 #[.string (txt l), .int .i64 ((i : Int) + 1)] wx fun e w' => e = .returned (.int .i64 (skipAt l (i + 1))) ∧ w' = wx := fun wx i hi => by
    have := hbl wx (i + 1) (by omega)
    rwa [Int.natCast_add] at this
  have hbh : ∀ (wx : World) (j : Nat), Calls Tryz.prog 58 #[.string (txt l), .int .i64 j] wx fun e w' => e = .returned (badV j (hereE l j)) ∧ Below wx.heap.size wx w' := fun wx j => rhere_any (w := wx) (l := l) (q := j)
  simp only [badV] at hbh
  have hvg := value_good K
  obtain ⟨W0, hW0⟩ : ∃ W0, ((w.alloc (.cells #[.int .i64 0, .bool false, .bool false, .string ⟨#[]⟩, .int .i64 0, .string ⟨#[]⟩, .slice none 0 0, .slice none 0 0, .int .i64 0, .int .i64 0, .int .i64 0] 31)).alloc (.cells #[.int .i64 6, .bool false, .bool false, .string ⟨#[]⟩, .int .i64 0, .string ⟨#[]⟩, .slice none 0 0, .slice none 0 0] 29)) = W0 := ⟨_, rfl⟩
  have hB0 := new_of (World.alloc_heap_new w (.cells #[.int .i64 0, .bool false, .bool false, .string ⟨#[]⟩, .int .i64 0, .string ⟨#[]⟩, .slice none 0 0, .slice none 0 0, .int .i64 0, .int .i64 0, .int .i64 0] 31)) (.cells #[.int .i64 6, .bool false, .bool false, .string ⟨#[]⟩, .int .i64 0, .string ⟨#[]⟩, .slice none 0 0, .slice none 0 0] 29)
  have hV0 := World.alloc_heap_new (w.alloc (.cells #[.int .i64 0, .bool false, .bool false, .string ⟨#[]⟩, .int .i64 0, .string ⟨#[]⟩, .slice none 0 0, .slice none 0 0, .int .i64 0, .int .i64 0, .int .i64 0] 31)) (.cells #[.int .i64 6, .bool false, .bool false, .string ⟨#[]⟩, .int .i64 0, .string ⟨#[]⟩, .slice none 0 0, .slice none 0 0] 29)
  rw [World.size_alloc] at hV0
  have bW : Below w.heap.size w ((w.alloc (.cells #[.int .i64 0, .bool false, .bool false, .string ⟨#[]⟩, .int .i64 0, .string ⟨#[]⟩, .slice none 0 0, .slice none 0 0, .int .i64 0, .int .i64 0, .int .i64 0] 31)).alloc (.cells #[.int .i64 6, .bool false, .bool false, .string ⟨#[]⟩, .int .i64 0, .string ⟨#[]⟩, .slice none 0 0, .slice none 0 0] 29)) := ((Below.refl _ w).alloc (Nat.le_refl _) _).alloc (by simp) _
  have hM0 : Mid w.heap.size true (.slice none 0 0) [] (.slice none 0 0) [] [] W0 ∧ Below w.heap.size w W0 := by
    rw [← hW0]
    exact ⟨Mid.first true (by simp) hB0 hV0, bW⟩
  generalize hgg : many (value K) (l.drop q) = gg at *
  have HM0 := Lib.hid hM0
  have HW := Lib.hid hW0
  have HST := Lib.hid hst
  have HBL := Lib.hid hbl
  have HBL1 := Lib.hid hbl1
  have HBH := Lib.hid hbh
  have HV := Lib.hid hv
  have HVG := Lib.hid hvg
  clear hM0 hW0 hst hbl hbl1 hbh hv hvg hgg bW hB0 hV0 hnb
  go_enter Tryz.func39, Tryz.ntmps39
  go_wp2_with fail
  rw [HW.out]
  refine (HBL1.out _ q hq).mono ?_
  rintro e w2 ⟨rfl, rfl⟩
  obtain ⟨i0, hi0⟩ : ∃ i0, skipAt l (q + 1) = i0 := ⟨_, rfl⟩
  have hst := HST.out
  rw [hi0] at hst ⊢
  have hi0l : i0 ≤ l.length := by rw [← hi0]; exact skipAt_le l _
  clear HST HW hi0 hix
  by_cases hcl : nb l i0 = 125
  · have hlt : i0 < l.length := nb_ne hcl (by decide)
    have hlt' : (i0 : Int) < (l.length : Int) := by omega
    have hix := idx hlt
    rw [hcl] at hix
    rw [if_pos (show nb l i0 = (close true).toNat from hcl)] at hst
    have hwi : IntKind.i64.wrap ((i0 : Int) + 1) = (i0 : Int) + 1 := by simp only [IntKind.wrap, IntKind.signed, IntKind.bits]; simp; omega
    have hM := HM0.out.1
    have HF := Lib.hid fun (C : Value → Val → Prop) (p : Int) (hC : C (.agg #[.int .i64 6, .bool false, .bool false, .string ⟨#[]⟩, .int .i64 0, .string ⟨#[]⟩, .slice none 0 0, .slice none 0 0]) (made true [] [])) => TellE.good (C := C) (n := l.length) (a := (i0 : Int) + 1) (p := p) hst (by rw [List.length_drop]; omega) hC
    have hval : w2.heap[w.heap.size + 1]? = some (.cells #[.int .i64 6, .bool false, .bool false, .string ⟨#[]⟩, .int .i64 0, .string ⟨#[]⟩, .slice none 0 0, .slice none 0 0] 29 (0, 0)) := hM.val
    obtain ⟨d0, d1, d2, d3, d4, d5, d6, d7⟩ := Tre.eight hval
    have HH := Lib.hid (holdF_set11 (made_holdF true hM.T hM.C (Nat.le_refl _)) (show w.heap.size < w.heap.size + 2 by omega) (show w.heap.size ≤ w.heap.size + 2 by omega) (.int .i64 6) (.bool false) (.bool false) (.string ⟨#[]⟩) (.int .i64 0) (.string ⟨#[]⟩) (.slice none 0 0) (.slice none 0 0) (.int .i64 ((i0 : Int) + 1)) (.int .i64 0) (.int .i64 0))
    have hgot := hM.got
    have hbel := HM0.out.2
    have hlg := lt_of_heap hgot
    have hlv := lt_of_heap hval
    clear hst HM0 HBL HBL1 HBH HV HVG hM hval hcl
    have h9 := set11 hgot (.int .i64 6) (.bool false) (.bool false) (.string ⟨#[]⟩) (.int .i64 0) (.string ⟨#[]⟩) (.slice none 0 0) (.slice none 0 0) (.int .i64 ((i0 : Int) + 1)) (.int .i64 0) (.int .i64 0)
    have b9 := below11 hbel (Nat.le_refl _) (.int .i64 6) (.bool false) (.bool false) (.string ⟨#[]⟩) (.int .i64 0) (.string ⟨#[]⟩) (.slice none 0 0) (.slice none 0 0) (.int .i64 ((i0 : Int) + 1)) (.int .i64 0) (.int .i64 0)
    obtain ⟨z0, z1, z2, z3, z4, z5, z6, z7, z8, z9, z10⟩ := eleven h9
    obtain ⟨y0, y1, y2, y3, y4, y5, y6, y7, y8, y9, y10⟩ := eleven hgot
    have qf := free_of hgot
    clear h9
    go_wp2_with fail
    refine bodyPost_ret (v := .agg #[.int .i64 6, .bool false, .bool false, .string ⟨#[]⟩, .int .i64 0, .string ⟨#[]⟩, .slice none 0 0, .slice none 0 0, .int .i64 ((i0 : Int) + 1), .int .i64 0, .int .i64 0]) (by simp [results, Tryz.results39, go_sem, z0, z1, z2, z3, z4, z5, z6, z7, z8, z9, z10]) rfl ⟨HF.out _ _ HH.out, b9⟩
  rw [if_neg (show ¬ nb l i0 = (close true).toNat from hcl)] at hst
  have HSTI := Lib.hid hst
  clear hst
  by_cases hlt : i0 < l.length
  · have hlt' : (i0 : Int) < (l.length : Int) := by omega
    have hix := idx hlt
    have hcne : (((nb l i0 : Nat) : Int) == 125) = false := by simp; omega
    generalize nb l i0 = xi at *
    clear hcl
    go_wp2_with fail
    go_loopw [9] (fun z wr => ∃ (i : Nat) (uk : Value) (keys : List (List UInt8)) (uv : Value) (kids : List Val) (cs : List (List Value)), z = .int .i64 i ∧ i ≤ l.length ∧ gg = items (value K) true keys kids (l.drop i) ∧ keys.length ≤ i ∧ kids.length ≤ i ∧ Mid w.heap.size true uk keys uv kids cs wr ∧ Below w.heap.size w wr) (fun z _ => l.length - (intOf z).toNat)
    case atStart => exact ⟨i0, _, [], _, [], [], rfl, hi0l, HSTI.out, Nat.zero_le _, Nat.zero_le _, HM0.out.1, HM0.out.2⟩
    case round =>
      obtain ⟨i, uk, keys, uv, kids, cs, rfl, hi, hm, hkl, hkd, hM, hb⟩ := hrel
      clear HM0 HSTI
      
      generalize hkn : keys.length = kn at *
      generalize hdn : kids.length = dn at *
      have hval : wr.heap[w.heap.size + 1]? = some (.cells #[.int .i64 6, .bool false, .bool false, .string ⟨#[]⟩, .int .i64 0, .string ⟨#[]⟩, uk, uv] 29 (0, 0)) := hM.val
      obtain ⟨v0, v1, v2, v3, v4, v5, v6, v7⟩ := Tre.eight hval
      have HMN := Lib.hid hm
      have HKN := Lib.hid hkn
      have HDN := Lib.hid hdn
      have HMM := Lib.hid hM
      have HB := Lib.hid hb
      have hlv := lt_of_heap hval
      clear hm hkn hdn hM hb hval
      have HPT := Lib.hid (part_field (value K) keys (l.drop i))
      have HFG := Lib.hid (field_good keys (l.drop i))
      have HFC := Lib.hid (rfield_tells (w := wr) (l := l) (q := i) (u := uk) (keys := keys) hl hi (by rw [HKN.out]; omega) HMM.out.keysAt)
      go_wp2_with fail
      refine HFC.out.mono ?_
      rintro e w3 ⟨⟨t, fa, fp, fk, rfl, hcase⟩, k3⟩
      have hN3 := World.alloc_heap_new w3 (.cells #[.int .i64 0, .bool false, .bool false, .string ⟨#[]⟩, .int .i64 0, .string t, .slice none 0 0, .slice none 0 0, .int .i64 fa, .int .i64 fp, .int .i64 fk] 31)
      obtain ⟨W3, hW3⟩ : ∃ W3, w3.alloc (.cells #[.int .i64 0, .bool false, .bool false, .string ⟨#[]⟩, .int .i64 0, .string t, .slice none 0 0, .slice none 0 0, .int .i64 fa, .int .i64 fp, .int .i64 fk] 31) = W3 := ⟨_, rfl⟩
      have k33 : Below w3.heap.size w3 W3 := by rw [← hW3]; exact (Below.refl _ w3).alloc (Nat.le_refl _) _
      rw [hW3] at hN3
      have hM3 := (HMM.out.below k3).below k33
      have b3 := (HB.out.trans (k3.mono HB.out.size)).trans (k33.mono (Nat.le_trans HB.out.size k3.size))
      have hneN : ¬ w3.heap.size = w.heap.size + 1 := by have := (HMM.out.below k3).base; omega
      have hltN : w.heap.size + 1 < w3.heap.size := by have := (HMM.out.below k3).base; omega
      have HN3 := Lib.hid hN3
      have HM3 := Lib.hid hM3
      have HB3 := Lib.hid b3
      have HW3 := Lib.hid hW3
      have HCASE := Lib.hid hcase
      clear hW3 hM3 b3 k3 k33 hN3 HFC v0 v1 v2 v3 v4 v5 v6 v7 hcase
      go_upto_region 11 with fail
      rw [HW3.out]
      clear HW3
      obtain ⟨n0, n1, n2, n3, n4, n5, n6, n7, n8, n9, n10⟩ := eleven HN3.out
      have hlN := lt_of_heap HN3.out
      rcases HCASE.out with ⟨kx, r, hfe, rfl, ha, rfl⟩ | ⟨⟨r, j, hfe⟩, hkne⟩
      rotate_left
      · have hk1 : (fk != 0) = true := by simpa using hkne
        have hno : gg = .no r j := by
          rw [HMN.out]
          refine items_no (value K) true ?_
          rw [HPT.out, hfe]
        have HF := Lib.hid fun (C : Value → Val → Prop) => TellE.bad2 (C := C) (n := l.length) hno hkne 0 false false ⟨#[]⟩ 0 t none 0 0 none 0 0 fa fp
        have hgot := HM3.out.got
        have hbel := HB3.out
        clear hno hfe hkne
        have h9 := set11 hgot (.int .i64 0) (.bool false) (.bool false) (.string ⟨#[]⟩) (.int .i64 0) (.string t) (.slice none 0 0) (.slice none 0 0) (.int .i64 fa) (.int .i64 fp) (.int .i64 fk)
        have b9 := below11 hbel (Nat.le_refl _) (.int .i64 0) (.bool false) (.bool false) (.string ⟨#[]⟩) (.int .i64 0) (.string t) (.slice none 0 0) (.slice none 0 0) (.int .i64 fa) (.int .i64 fp) (.int .i64 fk)
        obtain ⟨z0, z1, z2, z3, z4, z5, z6, z7, z8, z9, z10⟩ := eleven h9
        obtain ⟨y0, y1, y2, y3, y4, y5, y6, y7, y8, y9, y10⟩ := eleven hgot
        have qf := free_of hgot
        clear h9
        go_wp2_with fail
        refine bodyPost_ret (v := .agg #[.int .i64 0, .bool false, .bool false, .string ⟨#[]⟩, .int .i64 0, .string t, .slice none 0 0, .slice none 0 0, .int .i64 fa, .int .i64 fp, .int .i64 fk]) (by simp [results, Tryz.results39, go_sem, z0, z1, z2, z3, z4, z5, z6, z7, z8, z9, z10]) rfl ⟨HF.out _, b9⟩
      have hfg := HFG.out
      rw [hfe] at hfg
      have hsuf : r <:+ l := hfg.1.trans (List.drop_suffix _ _)
      have hrl : r.length < (l.drop i).length := hfg.2.1
      rw [List.length_drop] at hrl
      have hrL := hsuf.length_le
      have hdp : l.drop (l.length - r.length) = r := drop_suf hsuf
      obtain ⟨p, hp⟩ : ∃ p, l.length - r.length = p := ⟨_, rfl⟩
      rw [hp] at hdp ha
      subst ha
      have hpt := HPT.out
      rw [hfe] at hpt
      dsimp only at hpt
      rw [← hdp] at hpt
      have HPT2 := Lib.hid hpt
      have hpi : i < p := by omega
      have hpl : p ≤ l.length := by omega
      have hknb : kn < 1000000 := by omega
      have hval3 : W3.heap[w.heap.size + 1]? = some (.cells #[.int .i64 6, .bool false, .bool false, .string ⟨#[]⟩, .int .i64 0, .string ⟨#[]⟩, uk, uv] 29 (0, 0)) := HM3.out.val
      obtain ⟨v0, v1, v2, v3, v4, v5, v6, v7⟩ := Tre.eight hval3
      have hlV := lt_of_heap hval3
      have HV3 := Lib.hid hval3
      clear hpt hfe hfg hsuf hrl hrL hdp hp hval3 HPT HFG
      go_wp2_with (at_builtin; refine wp_pushT (by rfl) _ _ (by rfl) (w.heap.size + 2) (l := kx) HKN.out (by rfl) (by rfl) (cell_of (World.alloc_heap_new W3 _) 0) (HM3.out.T.below ((Below.refl _ W3).alloc (Nat.le_refl _) _)) hknb (by have := HM3.out.base; simp; omega) ?_)
      intro g cap w4 hT4 hg4 hn4
      have bT : Below W3.heap.size W3 (W3.alloc (.cells #[.string (txt kx)] 9)) := (Below.refl _ W3).alloc (Nat.le_refl _) _
      have hM4 := (HM3.out.below bT).keys hT4 hg4 (by rw [World.size_alloc]; exact hn4)
      have hlo : ∀ x, uk.ownBlock = some x → w.heap.size + 2 ≤ x ∧ x < W3.heap.size := Tre.rowT_lt HM3.out.T
      have hb4 : Below w.heap.size w (w4.setCell ⟨w.heap.size + 1, 6, none⟩ (.slice (some ⟨g, 0, none⟩) (kn + 1) cap)) := ((HB3.out.trans (bT.mono HB3.out.size)).grown hg4 (by have := HB3.out.size; simp; omega) (fun k e => by have := (hlo k e).1; omega)).setCell (p := ⟨w.heap.size + 1, 6, none⟩) (by dsimp only; omega) _
      have hv4 := (hg4.block (w.heap.size + 1) (by simp; omega) (fun e => by have := (hlo _ e.symm).1; omega)).trans ((bT.block _ hlV).trans HV3.out)
      have hown3 : uk.ownBlock ≠ some w3.heap.size := fun e => by
        obtain ⟨cur, hcur⟩ := rowT_block HM3.out.T e
        rw [HN3.out] at hcur
        injection hcur with hcur
        injection hcur with _ hty _
        exact absurd hty (by decide)
      have hN4 := (hg4.block w3.heap.size (by simp; omega) (fun e => hown3 e.symm)).trans ((bT.block _ hlN).trans HN3.out)
      have q6 := cell_of hv4 6
      have qf6 := free_of hv4 6
      have hN5 := (Tre.setc_other (i := 6) (.slice (some ⟨g, 0, none⟩) (kn + 1) cap) hneN).trans hN4
      obtain ⟨W5, hW5⟩ : ∃ W5, w4.setCell ⟨w.heap.size + 1, 6, none⟩ (.slice (some ⟨g, 0, none⟩) (kn + 1) cap) = W5 := ⟨_, rfl⟩
      rw [hW5] at hM4 hb4 hN5
      have HW5 := Lib.hid hW5
      have HM5 := Lib.hid hM4
      have HB5 := Lib.hid hb4
      have HN5 := Lib.hid hN5
      clear hW5 hM4 hb4 hN5 hN4 hv4 hlo hT4 hg4 hn4 bT hown3 HV3 HN3 HM3 HB3 HMM HB n0 n1 n2 n3 n4 n5 n6 n7 n8 n9 n10 v0 v1 v2 v3 v4 v5 v6 v7 hlV hlN
      go_upto_region 14 with fail
      rw [HW5.out]
      clear HW5 q6 qf6
      obtain ⟨n0, n1, n2, n3, n4, n5, n6, n7, n8, n9, n10⟩ := eleven HN5.out
      have HKN2 := Lib.hid (show (keys ++ [kx]).length = kn + 1 by rw [List.length_append, HKN.out]; rfl)
      go_wp2_with fail
      refine (HV.out W5 p hpl).mono ?_
      rintro e w6 ⟨⟨k0, b0, b1, dd, x0, tt, a1, n1', m1, a2, n2', m2, aa, pp, kk, rfl, hcase⟩, k6⟩
      have hN6 := World.alloc_heap_new w6 (.cells #[.int .i64 k0, .bool b0, .bool b1, .string dd, .int .i64 x0, .string tt, .slice a1 n1' m1, .slice a2 n2' m2, .int .i64 aa, .int .i64 pp, .int .i64 kk] 31)
      obtain ⟨W6, hW6⟩ : ∃ W6, w6.alloc (.cells #[.int .i64 k0, .bool b0, .bool b1, .string dd, .int .i64 x0, .string tt, .slice a1 n1' m1, .slice a2 n2' m2, .int .i64 aa, .int .i64 pp, .int .i64 kk] 31) = W6 := ⟨_, rfl⟩
      have k66 : Below w6.heap.size w6 W6 := by rw [← hW6]; exact (Below.refl _ w6).alloc (Nat.le_refl _) _
      rw [hW6] at hN6
      have hM6 := (HM5.out.below k6).below k66
      have b6 := (HB5.out.trans (k6.mono HB5.out.size)).trans (k66.mono (Nat.le_trans HB5.out.size k6.size))
      have hneM : ¬ w6.heap.size = w.heap.size + 1 := by have := (HM5.out.below k6).base; omega
      have hltM : w.heap.size + 1 < w6.heap.size := by have := (HM5.out.below k6).base; omega
      have HN6 := Lib.hid hN6
      have HM6 := Lib.hid hM6
      have HB6 := Lib.hid b6
      have HW6 := Lib.hid hW6
      have HC6 := Lib.hid hcase
      have HK6 := Lib.hid k6
      have HK66 := Lib.hid k66
      clear hW6 hM6 b6 k6 k66 hN6 hcase n0 n1 n2 n3 n4 n5 n6 n7 n8 n9 n10
      go_upto_region 16 with fail
      rw [HW6.out]
      clear HW6
      obtain ⟨u0, u1, u2, u3, u4, u5, u6, u7, u8, u9, u10⟩ := eleven HN6.out
      have hlM := lt_of_heap HN6.out
      rcases HC6.out with ⟨x, r2, hve, ha, rfl, hhold⟩ | ⟨⟨r2, j, hve⟩, hkne⟩
      rotate_left
      · have hk1 : (kk != 0) = true := by simpa using hkne
        have hno : gg = .no r2 j := by
          rw [HMN.out]
          refine items_no (value K) true ?_
          rw [HPT2.out, hve]
        have HF := Lib.hid fun (C : Value → Val → Prop) => TellE.bad2 (C := C) (n := l.length) hno hkne k0 b0 b1 dd x0 tt a1 n1' m1 a2 n2' m2 aa pp
        have hgot := HM6.out.got
        have hbel := HB6.out
        clear hno hve hkne
        have h9 := set11 hgot (.int .i64 k0) (.bool b0) (.bool b1) (.string dd) (.int .i64 x0) (.string tt) (.slice a1 n1' m1) (.slice a2 n2' m2) (.int .i64 aa) (.int .i64 pp) (.int .i64 kk)
        have b9 := below11 hbel (Nat.le_refl _) (.int .i64 k0) (.bool b0) (.bool b1) (.string dd) (.int .i64 x0) (.string tt) (.slice a1 n1' m1) (.slice a2 n2' m2) (.int .i64 aa) (.int .i64 pp) (.int .i64 kk)
        obtain ⟨z0, z1, z2, z3, z4, z5, z6, z7, z8, z9, z10⟩ := eleven h9
        obtain ⟨y0, y1, y2, y3, y4, y5, y6, y7, y8, y9, y10⟩ := eleven hgot
        have qf := free_of hgot
        clear h9
        go_wp2_with fail
        refine bodyPost_ret (v := .agg #[.int .i64 k0, .bool b0, .bool b1, .string dd, .int .i64 x0, .string tt, .slice a1 n1' m1, .slice a2 n2' m2, .int .i64 aa, .int .i64 pp, .int .i64 kk]) (by simp [results, Tryz.results39, go_sem, z0, z1, z2, z3, z4, z5, z6, z7, z8, z9, z10]) rfl ⟨HF.out _, b9⟩
      have hpart : part (value K) true keys (l.drop i) = .ok ((keys ++ [kx]), x) r2 := by rw [HPT2.out, hve]
      have hio := items_ok (kids := kids) HVG.out hpart
      have hgrow := items_grow HVG.out hpart
      have hsf := suf_items HVG.out hpart (List.drop_suffix _ _)
      have hrl2 := hsf.length_le
      have hdp2 : l.drop (l.length - r2.length) = r2 := drop_suf hsf
      obtain ⟨p2, hp2⟩ : ∃ p2, l.length - r2.length = p2 := ⟨_, rfl⟩
      rw [hp2] at hdp2 ha hgrow
      subst ha
      have hp2l : p2 ≤ l.length := by omega
      rw [← hdp2, ← skipAt_drop, after_item] at hio
      have hjl := skipAt_le l p2
      have hjg := skipAt_ge (l := l) hp2l
      have HBLP := Lib.hid (fun wx => HBL.out wx p2 hp2l)
      generalize skipAt l p2 = j at *
      have HAFT := Lib.hid (HMN.out.trans hio)
      have HHOLD := Lib.hid hhold
      have hdnb : dn < 1000000 := by omega
      have hval6 : W6.heap[w.heap.size + 1]? = some (.cells #[.int .i64 6, .bool false, .bool false, .string ⟨#[]⟩, .int .i64 0, .string ⟨#[]⟩, .slice (some ⟨g, 0, none⟩) (kn + 1) cap, uv] 29 (0, 0)) := HM6.out.val
      obtain ⟨y0, y1, y2, y3, y4, y5, y6, y7⟩ := Tre.eight hval6
      have hlV6 := lt_of_heap hval6
      have HV6 := Lib.hid hval6
      clear hve hpart hio hsf hrl2 hdp2 hp2 hhold hval6 HMN HPT2 HC6
      go_wp2_with (at_builtin; go_loud (refine Tre.wp_push (by rfl) _ _ (by rfl) (w.heap.size + 2) W5.heap.size (v := x) (c := [.int .i64 k0, .bool b0, .bool b1, .string dd, .int .i64 x0, .string tt, .slice a1 n1' m1, .slice a2 n2' m2]) HDN.out (by rfl) (by rfl) (new8R W6 _ rfl) (HM6.out.C.below ((Below.refl _ W6).alloc (Nat.le_refl _) _)) (HoldP.keep (by simp) (fun g _ hlt => Below.heap_alloc _ _ _ hlt) _ (holdF_cells (HHOLD.out.below HK66.out))) HM5.out.base (fun g e => (HM5.out.C.own_lt g e).2) (fun g e => (Tre.rowT_lt HM5.out.T g e).2) hdnb (by have := HM6.out.base; simp; omega) ?_))
      intro g2 cap2 w7 hC7 hg7
      have bT7 : Below W6.heap.size W6 (W6.alloc (.cells #[.int .i64 k0, .bool b0, .bool b1, .string dd, .int .i64 x0, .string tt, .slice a1 n1' m1, .slice a2 n2' m2] 29)) := (Below.refl _ W6).alloc (Nat.le_refl _) _
      have hM7 := (HM6.out.below bT7).kids hC7 hg7
      have hlo7 : ∀ x, uv.ownBlock = some x → w.heap.size + 2 ≤ x ∧ x < W5.heap.size := HM5.out.C.own_lt
      have hsz : W5.heap.size ≤ w6.heap.size := HK6.out.size
      have hb7 : Below w.heap.size w (w7.setCell ⟨w.heap.size + 1, 7, none⟩ (.slice (some ⟨g2, 0, none⟩) (dn + 1) cap2)) := ((HB6.out.trans (bT7.mono HB6.out.size)).grown hg7 (by have := HB6.out.size; simp; omega) (fun k e => by have := (hlo7 k e).1; omega)).setCell (p := ⟨w.heap.size + 1, 7, none⟩) (by dsimp only; omega) _
      have hv7 := (hg7.block (w.heap.size + 1) (by simp; omega) (fun e => by have := (hlo7 _ e.symm).1; omega)).trans ((bT7.block _ hlV6).trans HV6.out)
      have hN7 := (hg7.block w6.heap.size (by simp; omega) (fun e => by have := (hlo7 _ e.symm).2; omega)).trans ((bT7.block _ hlM).trans HN6.out)
      have q7 := cell_of hv7 7
      have qf7 := free_of hv7 7
      have hN8 := (Tre.setc_other (i := 7) (.slice (some ⟨g2, 0, none⟩) (dn + 1) cap2) hneM).trans hN7
      obtain ⟨W7, hW7⟩ : ∃ W7, w7.setCell ⟨w.heap.size + 1, 7, none⟩ (.slice (some ⟨g2, 0, none⟩) (dn + 1) cap2) = W7 := ⟨_, rfl⟩
      rw [hW7] at hM7 hb7 hN8
      have HW7 := Lib.hid hW7
      have HM7 := Lib.hid hM7
      have HB7 := Lib.hid hb7
      have HN8 := Lib.hid hN8
      clear hW7 hM7 hb7 hN8 hN7 hv7 hlo7 hC7 hg7 bT7 HV6 HN6 HM6 HB6 HM5 HB5 u0 u1 u2 u3 u4 u5 u6 u7 u8 u9 u10 y0 y1 y2 y3 y4 y5 y6 y7 hlV6 hlM HK6 HK66 HHOLD
      go_upto_region 19 with fail
      rw [HW7.out]
      clear HW7 q7 qf7
      obtain ⟨u0, u1, u2, u3, u4, u5, u6, u7, u8, u9, u10⟩ := eleven HN8.out
      go_wp2_with fail
      refine (HBLP.out _).mono ?_
      rintro e w8 ⟨rfl, rfl⟩
      clear u0 u1 u2 u3 u4 u5 u6 u7 u8 u9 u10 HBLP HN8
      by_cases hjc : nb l j = 125
      · have hjlt : j < l.length := nb_ne hjc (by decide)
        have hjlt' : (j : Int) < (l.length : Int) := by omega
        have hixj := idx hjlt
        rw [hjc] at hixj
        have haft := HAFT.out
        rw [if_pos (show nb l j = (close true).toNat from hjc)] at haft
        have hwj : IntKind.i64.wrap ((j : Int) + 1) = (j : Int) + 1 := by simp only [IntKind.wrap, IntKind.signed, IntKind.bits]; simp; omega
        have HF := Lib.hid fun (C : Value → Val → Prop) (p : Int) (hC : C (.agg #[.int .i64 6, .bool false, .bool false, .string ⟨#[]⟩, .int .i64 0, .string ⟨#[]⟩, .slice (some ⟨g, 0, none⟩) (kn + 1) cap, .slice (some ⟨g2, 0, none⟩) (dn + 1) cap2]) (made true (keys ++ [kx]) (kids ++ [x]))) => TellE.good (C := C) (n := l.length) (a := (j : Int) + 1) (p := p) haft (by rw [List.length_drop]; omega) hC
        have hval : w8.heap[w.heap.size + 1]? = some (.cells #[.int .i64 6, .bool false, .bool false, .string ⟨#[]⟩, .int .i64 0, .string ⟨#[]⟩, .slice (some ⟨g, 0, none⟩) (kn + 1) cap, .slice (some ⟨g2, 0, none⟩) (dn + 1) cap2] 29 (0, 0)) := HM7.out.val
        obtain ⟨d0, d1, d2, d3, d4, d5, d6, d7⟩ := Tre.eight hval
        have HH := Lib.hid (holdF_set11 (made_holdF true HM7.out.T HM7.out.C (Nat.le_refl _)) (show w.heap.size < w.heap.size + 2 by omega) (show w.heap.size ≤ w.heap.size + 2 by omega) (.int .i64 6) (.bool false) (.bool false) (.string ⟨#[]⟩) (.int .i64 0) (.string ⟨#[]⟩) (.slice (some ⟨g, 0, none⟩) (kn + 1) cap) (.slice (some ⟨g2, 0, none⟩) (dn + 1) cap2) (.int .i64 ((j : Int) + 1)) (.int .i64 0) (.int .i64 0))
        have hgot := HM7.out.got
        have hbel := HB7.out
        have hlg := lt_of_heap hgot
        have hlv := lt_of_heap hval
        clear haft HAFT HM7 HB7 hval hjc HBL HBL1 HBH HV HVG
        have h9 := set11 hgot (.int .i64 6) (.bool false) (.bool false) (.string ⟨#[]⟩) (.int .i64 0) (.string ⟨#[]⟩) (.slice (some ⟨g, 0, none⟩) (kn + 1) cap) (.slice (some ⟨g2, 0, none⟩) (dn + 1) cap2) (.int .i64 ((j : Int) + 1)) (.int .i64 0) (.int .i64 0)
        have b9 := below11 hbel (Nat.le_refl _) (.int .i64 6) (.bool false) (.bool false) (.string ⟨#[]⟩) (.int .i64 0) (.string ⟨#[]⟩) (.slice (some ⟨g, 0, none⟩) (kn + 1) cap) (.slice (some ⟨g2, 0, none⟩) (dn + 1) cap2) (.int .i64 ((j : Int) + 1)) (.int .i64 0) (.int .i64 0)
        obtain ⟨z0, z1, z2, z3, z4, z5, z6, z7, z8, z9, z10⟩ := eleven h9
        obtain ⟨y0, y1, y2, y3, y4, y5, y6, y7, y8, y9, y10⟩ := eleven hgot
        have qf := free_of hgot
        clear h9
        go_wp2_with fail
        refine bodyPost_ret (v := .agg #[.int .i64 6, .bool false, .bool false, .string ⟨#[]⟩, .int .i64 0, .string ⟨#[]⟩, .slice (some ⟨g, 0, none⟩) (kn + 1) cap, .slice (some ⟨g2, 0, none⟩) (dn + 1) cap2, .int .i64 ((j : Int) + 1), .int .i64 0, .int .i64 0]) (by simp [results, Tryz.results39, go_sem, z0, z1, z2, z3, z4, z5, z6, z7, z8, z9, z10]) rfl ⟨HF.out _ _ HH.out, b9⟩
      have hneg : ¬ nb l j = (close true).toNat := hjc
      by_cases hjlt : j < l.length
      · have hjlt' : (j : Int) < (l.length : Int) := by omega
        have hjd : decide (l.length ≤ j) = false := decide_eq_false (by omega)
        have hjd' : ¬ (l.length : Int) ≤ (j : Int) := by omega
        have hixj := idx hjlt
        have hcne : (((nb l j : Nat) : Int) == 125) = false := by simp; omega
        by_cases h44 : nb l j = 44
        · have haft := HAFT.out
          rw [if_neg hneg, if_neg (by simpa using h44)] at haft
          have hwj : IntKind.i64.wrap ((j : Int) + 1) = (j : Int) + 1 := by simp only [IntKind.wrap, IntKind.signed, IntKind.bits]; simp; omega
          have hcm : (((nb l j : Nat) : Int) != 44) = false := by simp [h44]
          have HAF := Lib.hid haft
          have hnl := skipAt_le l (j + 1)
          have hng := skipAt_ge (l := l) (show j + 1 ≤ l.length by omega)
          have HBJ := Lib.hid (fun wx => HBL1.out wx j hjlt)
          rw [h44] at hixj
          clear haft HAFT h44 hneg hcne hcm hjc
          go_wp2_with fail
          refine (HBJ.out _).mono ?_
          rintro e w9 ⟨rfl, rfl⟩
          generalize skipAt l (j + 1) = i2 at *
          go_wp2_with fail
          go_roundw
          case rel => exact ⟨i2, _, _, _, _, _, rfl, hnl, HAF.out, by rw [HKN2.out]; omega, by rw [List.length_append, HDN.out]; simp; omega, HM7.out, HB7.out⟩
          case measure => simp [intOf]; omega
        · have hcm : (((nb l j : Nat) : Int) != 44) = true := by simp; omega
          generalize hnj : nb l j = xj at *
          have HNG := Lib.hid hneg
          have H44 := Lib.hid h44
          clear hneg h44 hjc hnj
          obtain ⟨r3, j3, hno⟩ := here_no (α := Val) (l.drop j)
          have hno2 : gg = .no r3 j3 := by rw [HAFT.out, if_neg HNG.out, if_pos H44.out]; exact hno
          have hE := here_ne l j
          have hbh := fun wx => HBH.out wx j
          generalize hereE l j = ee at *
          have HF := Lib.hid fun (C : Value → Val → Prop) => TellE.bad2 (C := C) (n := l.length) hno2 hE 0 false false ⟨#[]⟩ 0 ⟨#[]⟩ none 0 0 none 0 0 0 j
          have HBHJ := Lib.hid hbh
          clear hno hno2 hE hbh
          go_wp2_with fail
          refine (HBHJ.out _).mono ?_
          rintro e w9 ⟨rfl, k9⟩
          have hgot := (k9.block _ (lt_of_heap HM7.out.got)).trans HM7.out.got
          have hbel := HB7.out.trans (k9.mono HB7.out.size)
          clear k9
          have h9 := set11 hgot (.int .i64 0) (.bool false) (.bool false) (.string ⟨#[]⟩) (.int .i64 0) (.string ⟨#[]⟩) (.slice none 0 0) (.slice none 0 0) (.int .i64 0) (.int .i64 j) (.int .i64 ee)
          have b9 := below11 hbel (Nat.le_refl _) (.int .i64 0) (.bool false) (.bool false) (.string ⟨#[]⟩) (.int .i64 0) (.string ⟨#[]⟩) (.slice none 0 0) (.slice none 0 0) (.int .i64 0) (.int .i64 j) (.int .i64 ee)
          obtain ⟨z0, z1, z2, z3, z4, z5, z6, z7, z8, z9, z10⟩ := eleven h9
          obtain ⟨y0, y1, y2, y3, y4, y5, y6, y7, y8, y9, y10⟩ := eleven hgot
          have qf := free_of hgot
          clear h9
          go_wp2_with fail
          refine bodyPost_ret (v := .agg #[.int .i64 0, .bool false, .bool false, .string ⟨#[]⟩, .int .i64 0, .string ⟨#[]⟩, .slice none 0 0, .slice none 0 0, .int .i64 0, .int .i64 j, .int .i64 ee]) (by simp [results, Tryz.results39, go_sem, z0, z1, z2, z3, z4, z5, z6, z7, z8, z9, z10]) rfl ⟨HF.out _, b9⟩
      · have hjd : decide (j < l.length) = false := decide_eq_false hjlt
        have hjd2 : decide (l.length ≤ j) = true := decide_eq_true (by omega)
        have hjd3 : (l.length : Int) ≤ (j : Int) := by omega
        have h44 : nb l j ≠ 44 := by rw [nb_past (by omega)]; decide
        have HNG := Lib.hid hneg
        have H44 := Lib.hid h44
        clear hneg h44 hjc
        obtain ⟨r3, j3, hno⟩ := here_no (α := Val) (l.drop j)
        have hno2 : gg = .no r3 j3 := by rw [HAFT.out, if_neg HNG.out, if_pos H44.out]; exact hno
        have hE := here_ne l j
        have hbh := fun wx => HBH.out wx j
        generalize hereE l j = ee at *
        have HF := Lib.hid fun (C : Value → Val → Prop) => TellE.bad2 (C := C) (n := l.length) hno2 hE 0 false false ⟨#[]⟩ 0 ⟨#[]⟩ none 0 0 none 0 0 0 j
        have HBHJ := Lib.hid hbh
        clear hno hno2 hE hbh
        go_wp2_with fail
        refine (HBHJ.out _).mono ?_
        rintro e w9 ⟨rfl, k9⟩
        have hgot := (k9.block _ (lt_of_heap HM7.out.got)).trans HM7.out.got
        have hbel := HB7.out.trans (k9.mono HB7.out.size)
        clear k9
        have h9 := set11 hgot (.int .i64 0) (.bool false) (.bool false) (.string ⟨#[]⟩) (.int .i64 0) (.string ⟨#[]⟩) (.slice none 0 0) (.slice none 0 0) (.int .i64 0) (.int .i64 j) (.int .i64 ee)
        have b9 := below11 hbel (Nat.le_refl _) (.int .i64 0) (.bool false) (.bool false) (.string ⟨#[]⟩) (.int .i64 0) (.string ⟨#[]⟩) (.slice none 0 0) (.slice none 0 0) (.int .i64 0) (.int .i64 j) (.int .i64 ee)
        obtain ⟨z0, z1, z2, z3, z4, z5, z6, z7, z8, z9, z10⟩ := eleven h9
        obtain ⟨y0, y1, y2, y3, y4, y5, y6, y7, y8, y9, y10⟩ := eleven hgot
        have qf := free_of hgot
        clear h9
        go_wp2_with fail
        refine bodyPost_ret (v := .agg #[.int .i64 0, .bool false, .bool false, .string ⟨#[]⟩, .int .i64 0, .string ⟨#[]⟩, .slice none 0 0, .slice none 0 0, .int .i64 0, .int .i64 j, .int .i64 ee]) (by simp [results, Tryz.results39, go_sem, z0, z1, z2, z3, z4, z5, z6, z7, z8, z9, z10]) rfl ⟨HF.out _, b9⟩
  · have hg1 : decide (i0 < l.length) = false := decide_eq_false hlt
    clear hcl
    go_wp2_with fail
    go_loopw [9] (fun z wr => ∃ (i : Nat) (uk : Value) (keys : List (List UInt8)) (uv : Value) (kids : List Val) (cs : List (List Value)), z = .int .i64 i ∧ i ≤ l.length ∧ gg = items (value K) true keys kids (l.drop i) ∧ keys.length ≤ i ∧ kids.length ≤ i ∧ Mid w.heap.size true uk keys uv kids cs wr ∧ Below w.heap.size w wr) (fun z _ => l.length - (intOf z).toNat)
    case atStart => exact ⟨i0, _, [], _, [], [], rfl, hi0l, HSTI.out, Nat.zero_le _, Nat.zero_le _, HM0.out.1, HM0.out.2⟩
    case round =>
      obtain ⟨i, uk, keys, uv, kids, cs, rfl, hi, hm, hkl, hkd, hM, hb⟩ := hrel
      clear HM0 HSTI
      
      generalize hkn : keys.length = kn at *
      generalize hdn : kids.length = dn at *
      have hval : wr.heap[w.heap.size + 1]? = some (.cells #[.int .i64 6, .bool false, .bool false, .string ⟨#[]⟩, .int .i64 0, .string ⟨#[]⟩, uk, uv] 29 (0, 0)) := hM.val
      obtain ⟨v0, v1, v2, v3, v4, v5, v6, v7⟩ := Tre.eight hval
      have HMN := Lib.hid hm
      have HKN := Lib.hid hkn
      have HDN := Lib.hid hdn
      have HMM := Lib.hid hM
      have HB := Lib.hid hb
      have hlv := lt_of_heap hval
      clear hm hkn hdn hM hb hval
      have HPT := Lib.hid (part_field (value K) keys (l.drop i))
      have HFG := Lib.hid (field_good keys (l.drop i))
      have HFC := Lib.hid (rfield_tells (w := wr) (l := l) (q := i) (u := uk) (keys := keys) hl hi (by rw [HKN.out]; omega) HMM.out.keysAt)
      go_wp2_with fail
      refine HFC.out.mono ?_
      rintro e w3 ⟨⟨t, fa, fp, fk, rfl, hcase⟩, k3⟩
      have hN3 := World.alloc_heap_new w3 (.cells #[.int .i64 0, .bool false, .bool false, .string ⟨#[]⟩, .int .i64 0, .string t, .slice none 0 0, .slice none 0 0, .int .i64 fa, .int .i64 fp, .int .i64 fk] 31)
      obtain ⟨W3, hW3⟩ : ∃ W3, w3.alloc (.cells #[.int .i64 0, .bool false, .bool false, .string ⟨#[]⟩, .int .i64 0, .string t, .slice none 0 0, .slice none 0 0, .int .i64 fa, .int .i64 fp, .int .i64 fk] 31) = W3 := ⟨_, rfl⟩
      have k33 : Below w3.heap.size w3 W3 := by rw [← hW3]; exact (Below.refl _ w3).alloc (Nat.le_refl _) _
      rw [hW3] at hN3
      have hM3 := (HMM.out.below k3).below k33
      have b3 := (HB.out.trans (k3.mono HB.out.size)).trans (k33.mono (Nat.le_trans HB.out.size k3.size))
      have hneN : ¬ w3.heap.size = w.heap.size + 1 := by have := (HMM.out.below k3).base; omega
      have hltN : w.heap.size + 1 < w3.heap.size := by have := (HMM.out.below k3).base; omega
      have HN3 := Lib.hid hN3
      have HM3 := Lib.hid hM3
      have HB3 := Lib.hid b3
      have HW3 := Lib.hid hW3
      have HCASE := Lib.hid hcase
      clear hW3 hM3 b3 k3 k33 hN3 HFC v0 v1 v2 v3 v4 v5 v6 v7 hcase
      go_upto_region 11 with fail
      rw [HW3.out]
      clear HW3
      obtain ⟨n0, n1, n2, n3, n4, n5, n6, n7, n8, n9, n10⟩ := eleven HN3.out
      have hlN := lt_of_heap HN3.out
      rcases HCASE.out with ⟨kx, r, hfe, rfl, ha, rfl⟩ | ⟨⟨r, j, hfe⟩, hkne⟩
      rotate_left
      · have hk1 : (fk != 0) = true := by simpa using hkne
        have hno : gg = .no r j := by
          rw [HMN.out]
          refine items_no (value K) true ?_
          rw [HPT.out, hfe]
        have HF := Lib.hid fun (C : Value → Val → Prop) => TellE.bad2 (C := C) (n := l.length) hno hkne 0 false false ⟨#[]⟩ 0 t none 0 0 none 0 0 fa fp
        have hgot := HM3.out.got
        have hbel := HB3.out
        clear hno hfe hkne
        have h9 := set11 hgot (.int .i64 0) (.bool false) (.bool false) (.string ⟨#[]⟩) (.int .i64 0) (.string t) (.slice none 0 0) (.slice none 0 0) (.int .i64 fa) (.int .i64 fp) (.int .i64 fk)
        have b9 := below11 hbel (Nat.le_refl _) (.int .i64 0) (.bool false) (.bool false) (.string ⟨#[]⟩) (.int .i64 0) (.string t) (.slice none 0 0) (.slice none 0 0) (.int .i64 fa) (.int .i64 fp) (.int .i64 fk)
        obtain ⟨z0, z1, z2, z3, z4, z5, z6, z7, z8, z9, z10⟩ := eleven h9
        obtain ⟨y0, y1, y2, y3, y4, y5, y6, y7, y8, y9, y10⟩ := eleven hgot
        have qf := free_of hgot
        clear h9
        go_wp2_with fail
        refine bodyPost_ret (v := .agg #[.int .i64 0, .bool false, .bool false, .string ⟨#[]⟩, .int .i64 0, .string t, .slice none 0 0, .slice none 0 0, .int .i64 fa, .int .i64 fp, .int .i64 fk]) (by simp [results, Tryz.results39, go_sem, z0, z1, z2, z3, z4, z5, z6, z7, z8, z9, z10]) rfl ⟨HF.out _, b9⟩
      have hfg := HFG.out
      rw [hfe] at hfg
      have hsuf : r <:+ l := hfg.1.trans (List.drop_suffix _ _)
      have hrl : r.length < (l.drop i).length := hfg.2.1
      rw [List.length_drop] at hrl
      have hrL := hsuf.length_le
      have hdp : l.drop (l.length - r.length) = r := drop_suf hsuf
      obtain ⟨p, hp⟩ : ∃ p, l.length - r.length = p := ⟨_, rfl⟩
      rw [hp] at hdp ha
      subst ha
      have hpt := HPT.out
      rw [hfe] at hpt
      dsimp only at hpt
      rw [← hdp] at hpt
      have HPT2 := Lib.hid hpt
      have hpi : i < p := by omega
      have hpl : p ≤ l.length := by omega
      have hknb : kn < 1000000 := by omega
      have hval3 : W3.heap[w.heap.size + 1]? = some (.cells #[.int .i64 6, .bool false, .bool false, .string ⟨#[]⟩, .int .i64 0, .string ⟨#[]⟩, uk, uv] 29 (0, 0)) := HM3.out.val
      obtain ⟨v0, v1, v2, v3, v4, v5, v6, v7⟩ := Tre.eight hval3
      have hlV := lt_of_heap hval3
      have HV3 := Lib.hid hval3
      clear hpt hfe hfg hsuf hrl hrL hdp hp hval3 HPT HFG
      go_wp2_with (at_builtin; refine wp_pushT (by rfl) _ _ (by rfl) (w.heap.size + 2) (l := kx) HKN.out (by rfl) (by rfl) (cell_of (World.alloc_heap_new W3 _) 0) (HM3.out.T.below ((Below.refl _ W3).alloc (Nat.le_refl _) _)) hknb (by have := HM3.out.base; simp; omega) ?_)
      intro g cap w4 hT4 hg4 hn4
      have bT : Below W3.heap.size W3 (W3.alloc (.cells #[.string (txt kx)] 9)) := (Below.refl _ W3).alloc (Nat.le_refl _) _
      have hM4 := (HM3.out.below bT).keys hT4 hg4 (by rw [World.size_alloc]; exact hn4)
      have hlo : ∀ x, uk.ownBlock = some x → w.heap.size + 2 ≤ x ∧ x < W3.heap.size := Tre.rowT_lt HM3.out.T
      have hb4 : Below w.heap.size w (w4.setCell ⟨w.heap.size + 1, 6, none⟩ (.slice (some ⟨g, 0, none⟩) (kn + 1) cap)) := ((HB3.out.trans (bT.mono HB3.out.size)).grown hg4 (by have := HB3.out.size; simp; omega) (fun k e => by have := (hlo k e).1; omega)).setCell (p := ⟨w.heap.size + 1, 6, none⟩) (by dsimp only; omega) _
      have hv4 := (hg4.block (w.heap.size + 1) (by simp; omega) (fun e => by have := (hlo _ e.symm).1; omega)).trans ((bT.block _ hlV).trans HV3.out)
      have hown3 : uk.ownBlock ≠ some w3.heap.size := fun e => by
        obtain ⟨cur, hcur⟩ := rowT_block HM3.out.T e
        rw [HN3.out] at hcur
        injection hcur with hcur
        injection hcur with _ hty _
        exact absurd hty (by decide)
      have hN4 := (hg4.block w3.heap.size (by simp; omega) (fun e => hown3 e.symm)).trans ((bT.block _ hlN).trans HN3.out)
      have q6 := cell_of hv4 6
      have qf6 := free_of hv4 6
      have hN5 := (Tre.setc_other (i := 6) (.slice (some ⟨g, 0, none⟩) (kn + 1) cap) hneN).trans hN4
      obtain ⟨W5, hW5⟩ : ∃ W5, w4.setCell ⟨w.heap.size + 1, 6, none⟩ (.slice (some ⟨g, 0, none⟩) (kn + 1) cap) = W5 := ⟨_, rfl⟩
      rw [hW5] at hM4 hb4 hN5
      have HW5 := Lib.hid hW5
      have HM5 := Lib.hid hM4
      have HB5 := Lib.hid hb4
      have HN5 := Lib.hid hN5
      clear hW5 hM4 hb4 hN5 hN4 hv4 hlo hT4 hg4 hn4 bT hown3 HV3 HN3 HM3 HB3 HMM HB n0 n1 n2 n3 n4 n5 n6 n7 n8 n9 n10 v0 v1 v2 v3 v4 v5 v6 v7 hlV hlN
      go_upto_region 14 with fail
      rw [HW5.out]
      clear HW5 q6 qf6
      obtain ⟨n0, n1, n2, n3, n4, n5, n6, n7, n8, n9, n10⟩ := eleven HN5.out
      have HKN2 := Lib.hid (show (keys ++ [kx]).length = kn + 1 by rw [List.length_append, HKN.out]; rfl)
      go_wp2_with fail
      refine (HV.out W5 p hpl).mono ?_
      rintro e w6 ⟨⟨k0, b0, b1, dd, x0, tt, a1, n1', m1, a2, n2', m2, aa, pp, kk, rfl, hcase⟩, k6⟩
      have hN6 := World.alloc_heap_new w6 (.cells #[.int .i64 k0, .bool b0, .bool b1, .string dd, .int .i64 x0, .string tt, .slice a1 n1' m1, .slice a2 n2' m2, .int .i64 aa, .int .i64 pp, .int .i64 kk] 31)
      obtain ⟨W6, hW6⟩ : ∃ W6, w6.alloc (.cells #[.int .i64 k0, .bool b0, .bool b1, .string dd, .int .i64 x0, .string tt, .slice a1 n1' m1, .slice a2 n2' m2, .int .i64 aa, .int .i64 pp, .int .i64 kk] 31) = W6 := ⟨_, rfl⟩
      have k66 : Below w6.heap.size w6 W6 := by rw [← hW6]; exact (Below.refl _ w6).alloc (Nat.le_refl _) _
      rw [hW6] at hN6
      have hM6 := (HM5.out.below k6).below k66
      have b6 := (HB5.out.trans (k6.mono HB5.out.size)).trans (k66.mono (Nat.le_trans HB5.out.size k6.size))
      have hneM : ¬ w6.heap.size = w.heap.size + 1 := by have := (HM5.out.below k6).base; omega
      have hltM : w.heap.size + 1 < w6.heap.size := by have := (HM5.out.below k6).base; omega
      have HN6 := Lib.hid hN6
      have HM6 := Lib.hid hM6
      have HB6 := Lib.hid b6
      have HW6 := Lib.hid hW6
      have HC6 := Lib.hid hcase
      have HK6 := Lib.hid k6
      have HK66 := Lib.hid k66
      clear hW6 hM6 b6 k6 k66 hN6 hcase n0 n1 n2 n3 n4 n5 n6 n7 n8 n9 n10
      go_upto_region 16 with fail
      rw [HW6.out]
      clear HW6
      obtain ⟨u0, u1, u2, u3, u4, u5, u6, u7, u8, u9, u10⟩ := eleven HN6.out
      have hlM := lt_of_heap HN6.out
      rcases HC6.out with ⟨x, r2, hve, ha, rfl, hhold⟩ | ⟨⟨r2, j, hve⟩, hkne⟩
      rotate_left
      · have hk1 : (kk != 0) = true := by simpa using hkne
        have hno : gg = .no r2 j := by
          rw [HMN.out]
          refine items_no (value K) true ?_
          rw [HPT2.out, hve]
        have HF := Lib.hid fun (C : Value → Val → Prop) => TellE.bad2 (C := C) (n := l.length) hno hkne k0 b0 b1 dd x0 tt a1 n1' m1 a2 n2' m2 aa pp
        have hgot := HM6.out.got
        have hbel := HB6.out
        clear hno hve hkne
        have h9 := set11 hgot (.int .i64 k0) (.bool b0) (.bool b1) (.string dd) (.int .i64 x0) (.string tt) (.slice a1 n1' m1) (.slice a2 n2' m2) (.int .i64 aa) (.int .i64 pp) (.int .i64 kk)
        have b9 := below11 hbel (Nat.le_refl _) (.int .i64 k0) (.bool b0) (.bool b1) (.string dd) (.int .i64 x0) (.string tt) (.slice a1 n1' m1) (.slice a2 n2' m2) (.int .i64 aa) (.int .i64 pp) (.int .i64 kk)
        obtain ⟨z0, z1, z2, z3, z4, z5, z6, z7, z8, z9, z10⟩ := eleven h9
        obtain ⟨y0, y1, y2, y3, y4, y5, y6, y7, y8, y9, y10⟩ := eleven hgot
        have qf := free_of hgot
        clear h9
        go_wp2_with fail
        refine bodyPost_ret (v := .agg #[.int .i64 k0, .bool b0, .bool b1, .string dd, .int .i64 x0, .string tt, .slice a1 n1' m1, .slice a2 n2' m2, .int .i64 aa, .int .i64 pp, .int .i64 kk]) (by simp [results, Tryz.results39, go_sem, z0, z1, z2, z3, z4, z5, z6, z7, z8, z9, z10]) rfl ⟨HF.out _, b9⟩
      have hpart : part (value K) true keys (l.drop i) = .ok ((keys ++ [kx]), x) r2 := by rw [HPT2.out, hve]
      have hio := items_ok (kids := kids) HVG.out hpart
      have hgrow := items_grow HVG.out hpart
      have hsf := suf_items HVG.out hpart (List.drop_suffix _ _)
      have hrl2 := hsf.length_le
      have hdp2 : l.drop (l.length - r2.length) = r2 := drop_suf hsf
      obtain ⟨p2, hp2⟩ : ∃ p2, l.length - r2.length = p2 := ⟨_, rfl⟩
      rw [hp2] at hdp2 ha hgrow
      subst ha
      have hp2l : p2 ≤ l.length := by omega
      rw [← hdp2, ← skipAt_drop, after_item] at hio
      have hjl := skipAt_le l p2
      have hjg := skipAt_ge (l := l) hp2l
      have HBLP := Lib.hid (fun wx => HBL.out wx p2 hp2l)
      generalize skipAt l p2 = j at *
      have HAFT := Lib.hid (HMN.out.trans hio)
      have HHOLD := Lib.hid hhold
      have hdnb : dn < 1000000 := by omega
      have hval6 : W6.heap[w.heap.size + 1]? = some (.cells #[.int .i64 6, .bool false, .bool false, .string ⟨#[]⟩, .int .i64 0, .string ⟨#[]⟩, .slice (some ⟨g, 0, none⟩) (kn + 1) cap, uv] 29 (0, 0)) := HM6.out.val
      obtain ⟨y0, y1, y2, y3, y4, y5, y6, y7⟩ := Tre.eight hval6
      have hlV6 := lt_of_heap hval6
      have HV6 := Lib.hid hval6
      clear hve hpart hio hsf hrl2 hdp2 hp2 hhold hval6 HMN HPT2 HC6
      go_wp2_with (at_builtin; go_loud (refine Tre.wp_push (by rfl) _ _ (by rfl) (w.heap.size + 2) W5.heap.size (v := x) (c := [.int .i64 k0, .bool b0, .bool b1, .string dd, .int .i64 x0, .string tt, .slice a1 n1' m1, .slice a2 n2' m2]) HDN.out (by rfl) (by rfl) (new8R W6 _ rfl) (HM6.out.C.below ((Below.refl _ W6).alloc (Nat.le_refl _) _)) (HoldP.keep (by simp) (fun g _ hlt => Below.heap_alloc _ _ _ hlt) _ (holdF_cells (HHOLD.out.below HK66.out))) HM5.out.base (fun g e => (HM5.out.C.own_lt g e).2) (fun g e => (Tre.rowT_lt HM5.out.T g e).2) hdnb (by have := HM6.out.base; simp; omega) ?_))
      intro g2 cap2 w7 hC7 hg7
      have bT7 : Below W6.heap.size W6 (W6.alloc (.cells #[.int .i64 k0, .bool b0, .bool b1, .string dd, .int .i64 x0, .string tt, .slice a1 n1' m1, .slice a2 n2' m2] 29)) := (Below.refl _ W6).alloc (Nat.le_refl _) _
      have hM7 := (HM6.out.below bT7).kids hC7 hg7
      have hlo7 : ∀ x, uv.ownBlock = some x → w.heap.size + 2 ≤ x ∧ x < W5.heap.size := HM5.out.C.own_lt
      have hsz : W5.heap.size ≤ w6.heap.size := HK6.out.size
      have hb7 : Below w.heap.size w (w7.setCell ⟨w.heap.size + 1, 7, none⟩ (.slice (some ⟨g2, 0, none⟩) (dn + 1) cap2)) := ((HB6.out.trans (bT7.mono HB6.out.size)).grown hg7 (by have := HB6.out.size; simp; omega) (fun k e => by have := (hlo7 k e).1; omega)).setCell (p := ⟨w.heap.size + 1, 7, none⟩) (by dsimp only; omega) _
      have hv7 := (hg7.block (w.heap.size + 1) (by simp; omega) (fun e => by have := (hlo7 _ e.symm).1; omega)).trans ((bT7.block _ hlV6).trans HV6.out)
      have hN7 := (hg7.block w6.heap.size (by simp; omega) (fun e => by have := (hlo7 _ e.symm).2; omega)).trans ((bT7.block _ hlM).trans HN6.out)
      have q7 := cell_of hv7 7
      have qf7 := free_of hv7 7
      have hN8 := (Tre.setc_other (i := 7) (.slice (some ⟨g2, 0, none⟩) (dn + 1) cap2) hneM).trans hN7
      obtain ⟨W7, hW7⟩ : ∃ W7, w7.setCell ⟨w.heap.size + 1, 7, none⟩ (.slice (some ⟨g2, 0, none⟩) (dn + 1) cap2) = W7 := ⟨_, rfl⟩
      rw [hW7] at hM7 hb7 hN8
      have HW7 := Lib.hid hW7
      have HM7 := Lib.hid hM7
      have HB7 := Lib.hid hb7
      have HN8 := Lib.hid hN8
      clear hW7 hM7 hb7 hN8 hN7 hv7 hlo7 hC7 hg7 bT7 HV6 HN6 HM6 HB6 HM5 HB5 u0 u1 u2 u3 u4 u5 u6 u7 u8 u9 u10 y0 y1 y2 y3 y4 y5 y6 y7 hlV6 hlM HK6 HK66 HHOLD
      go_upto_region 19 with fail
      rw [HW7.out]
      clear HW7 q7 qf7
      obtain ⟨u0, u1, u2, u3, u4, u5, u6, u7, u8, u9, u10⟩ := eleven HN8.out
      go_wp2_with fail
      refine (HBLP.out _).mono ?_
      rintro e w8 ⟨rfl, rfl⟩
      clear u0 u1 u2 u3 u4 u5 u6 u7 u8 u9 u10 HBLP HN8
      by_cases hjc : nb l j = 125
      · have hjlt : j < l.length := nb_ne hjc (by decide)
        have hjlt' : (j : Int) < (l.length : Int) := by omega
        have hixj := idx hjlt
        rw [hjc] at hixj
        have haft := HAFT.out
        rw [if_pos (show nb l j = (close true).toNat from hjc)] at haft
        have hwj : IntKind.i64.wrap ((j : Int) + 1) = (j : Int) + 1 := by simp only [IntKind.wrap, IntKind.signed, IntKind.bits]; simp; omega
        have HF := Lib.hid fun (C : Value → Val → Prop) (p : Int) (hC : C (.agg #[.int .i64 6, .bool false, .bool false, .string ⟨#[]⟩, .int .i64 0, .string ⟨#[]⟩, .slice (some ⟨g, 0, none⟩) (kn + 1) cap, .slice (some ⟨g2, 0, none⟩) (dn + 1) cap2]) (made true (keys ++ [kx]) (kids ++ [x]))) => TellE.good (C := C) (n := l.length) (a := (j : Int) + 1) (p := p) haft (by rw [List.length_drop]; omega) hC
        have hval : w8.heap[w.heap.size + 1]? = some (.cells #[.int .i64 6, .bool false, .bool false, .string ⟨#[]⟩, .int .i64 0, .string ⟨#[]⟩, .slice (some ⟨g, 0, none⟩) (kn + 1) cap, .slice (some ⟨g2, 0, none⟩) (dn + 1) cap2] 29 (0, 0)) := HM7.out.val
        obtain ⟨d0, d1, d2, d3, d4, d5, d6, d7⟩ := Tre.eight hval
        have HH := Lib.hid (holdF_set11 (made_holdF true HM7.out.T HM7.out.C (Nat.le_refl _)) (show w.heap.size < w.heap.size + 2 by omega) (show w.heap.size ≤ w.heap.size + 2 by omega) (.int .i64 6) (.bool false) (.bool false) (.string ⟨#[]⟩) (.int .i64 0) (.string ⟨#[]⟩) (.slice (some ⟨g, 0, none⟩) (kn + 1) cap) (.slice (some ⟨g2, 0, none⟩) (dn + 1) cap2) (.int .i64 ((j : Int) + 1)) (.int .i64 0) (.int .i64 0))
        have hgot := HM7.out.got
        have hbel := HB7.out
        have hlg := lt_of_heap hgot
        have hlv := lt_of_heap hval
        clear haft HAFT HM7 HB7 hval hjc HBL HBL1 HBH HV HVG
        have h9 := set11 hgot (.int .i64 6) (.bool false) (.bool false) (.string ⟨#[]⟩) (.int .i64 0) (.string ⟨#[]⟩) (.slice (some ⟨g, 0, none⟩) (kn + 1) cap) (.slice (some ⟨g2, 0, none⟩) (dn + 1) cap2) (.int .i64 ((j : Int) + 1)) (.int .i64 0) (.int .i64 0)
        have b9 := below11 hbel (Nat.le_refl _) (.int .i64 6) (.bool false) (.bool false) (.string ⟨#[]⟩) (.int .i64 0) (.string ⟨#[]⟩) (.slice (some ⟨g, 0, none⟩) (kn + 1) cap) (.slice (some ⟨g2, 0, none⟩) (dn + 1) cap2) (.int .i64 ((j : Int) + 1)) (.int .i64 0) (.int .i64 0)
        obtain ⟨z0, z1, z2, z3, z4, z5, z6, z7, z8, z9, z10⟩ := eleven h9
        obtain ⟨y0, y1, y2, y3, y4, y5, y6, y7, y8, y9, y10⟩ := eleven hgot
        have qf := free_of hgot
        clear h9
        go_wp2_with fail
        refine bodyPost_ret (v := .agg #[.int .i64 6, .bool false, .bool false, .string ⟨#[]⟩, .int .i64 0, .string ⟨#[]⟩, .slice (some ⟨g, 0, none⟩) (kn + 1) cap, .slice (some ⟨g2, 0, none⟩) (dn + 1) cap2, .int .i64 ((j : Int) + 1), .int .i64 0, .int .i64 0]) (by simp [results, Tryz.results39, go_sem, z0, z1, z2, z3, z4, z5, z6, z7, z8, z9, z10]) rfl ⟨HF.out _ _ HH.out, b9⟩
      have hneg : ¬ nb l j = (close true).toNat := hjc
      by_cases hjlt : j < l.length
      · have hjlt' : (j : Int) < (l.length : Int) := by omega
        have hjd : decide (l.length ≤ j) = false := decide_eq_false (by omega)
        have hjd' : ¬ (l.length : Int) ≤ (j : Int) := by omega
        have hixj := idx hjlt
        have hcne : (((nb l j : Nat) : Int) == 125) = false := by simp; omega
        by_cases h44 : nb l j = 44
        · have haft := HAFT.out
          rw [if_neg hneg, if_neg (by simpa using h44)] at haft
          have hwj : IntKind.i64.wrap ((j : Int) + 1) = (j : Int) + 1 := by simp only [IntKind.wrap, IntKind.signed, IntKind.bits]; simp; omega
          have hcm : (((nb l j : Nat) : Int) != 44) = false := by simp [h44]
          have HAF := Lib.hid haft
          have hnl := skipAt_le l (j + 1)
          have hng := skipAt_ge (l := l) (show j + 1 ≤ l.length by omega)
          have HBJ := Lib.hid (fun wx => HBL1.out wx j hjlt)
          rw [h44] at hixj
          clear haft HAFT h44 hneg hcne hcm hjc
          go_wp2_with fail
          refine (HBJ.out _).mono ?_
          rintro e w9 ⟨rfl, rfl⟩
          generalize skipAt l (j + 1) = i2 at *
          go_wp2_with fail
          go_roundw
          case rel => exact ⟨i2, _, _, _, _, _, rfl, hnl, HAF.out, by rw [HKN2.out]; omega, by rw [List.length_append, HDN.out]; simp; omega, HM7.out, HB7.out⟩
          case measure => simp [intOf]; omega
        · have hcm : (((nb l j : Nat) : Int) != 44) = true := by simp; omega
          generalize hnj : nb l j = xj at *
          have HNG := Lib.hid hneg
          have H44 := Lib.hid h44
          clear hneg h44 hjc hnj
          obtain ⟨r3, j3, hno⟩ := here_no (α := Val) (l.drop j)
          have hno2 : gg = .no r3 j3 := by rw [HAFT.out, if_neg HNG.out, if_pos H44.out]; exact hno
          have hE := here_ne l j
          have hbh := fun wx => HBH.out wx j
          generalize hereE l j = ee at *
          have HF := Lib.hid fun (C : Value → Val → Prop) => TellE.bad2 (C := C) (n := l.length) hno2 hE 0 false false ⟨#[]⟩ 0 ⟨#[]⟩ none 0 0 none 0 0 0 j
          have HBHJ := Lib.hid hbh
          clear hno hno2 hE hbh
          go_wp2_with fail
          refine (HBHJ.out _).mono ?_
          rintro e w9 ⟨rfl, k9⟩
          have hgot := (k9.block _ (lt_of_heap HM7.out.got)).trans HM7.out.got
          have hbel := HB7.out.trans (k9.mono HB7.out.size)
          clear k9
          have h9 := set11 hgot (.int .i64 0) (.bool false) (.bool false) (.string ⟨#[]⟩) (.int .i64 0) (.string ⟨#[]⟩) (.slice none 0 0) (.slice none 0 0) (.int .i64 0) (.int .i64 j) (.int .i64 ee)
          have b9 := below11 hbel (Nat.le_refl _) (.int .i64 0) (.bool false) (.bool false) (.string ⟨#[]⟩) (.int .i64 0) (.string ⟨#[]⟩) (.slice none 0 0) (.slice none 0 0) (.int .i64 0) (.int .i64 j) (.int .i64 ee)
          obtain ⟨z0, z1, z2, z3, z4, z5, z6, z7, z8, z9, z10⟩ := eleven h9
          obtain ⟨y0, y1, y2, y3, y4, y5, y6, y7, y8, y9, y10⟩ := eleven hgot
          have qf := free_of hgot
          clear h9
          go_wp2_with fail
          refine bodyPost_ret (v := .agg #[.int .i64 0, .bool false, .bool false, .string ⟨#[]⟩, .int .i64 0, .string ⟨#[]⟩, .slice none 0 0, .slice none 0 0, .int .i64 0, .int .i64 j, .int .i64 ee]) (by simp [results, Tryz.results39, go_sem, z0, z1, z2, z3, z4, z5, z6, z7, z8, z9, z10]) rfl ⟨HF.out _, b9⟩
      · have hjd : decide (j < l.length) = false := decide_eq_false hjlt
        have hjd2 : decide (l.length ≤ j) = true := decide_eq_true (by omega)
        have hjd3 : (l.length : Int) ≤ (j : Int) := by omega
        have h44 : nb l j ≠ 44 := by rw [nb_past (by omega)]; decide
        have HNG := Lib.hid hneg
        have H44 := Lib.hid h44
        clear hneg h44 hjc
        obtain ⟨r3, j3, hno⟩ := here_no (α := Val) (l.drop j)
        have hno2 : gg = .no r3 j3 := by rw [HAFT.out, if_neg HNG.out, if_pos H44.out]; exact hno
        have hE := here_ne l j
        have hbh := fun wx => HBH.out wx j
        generalize hereE l j = ee at *
        have HF := Lib.hid fun (C : Value → Val → Prop) => TellE.bad2 (C := C) (n := l.length) hno2 hE 0 false false ⟨#[]⟩ 0 ⟨#[]⟩ none 0 0 none 0 0 0 j
        have HBHJ := Lib.hid hbh
        clear hno hno2 hE hbh
        go_wp2_with fail
        refine (HBHJ.out _).mono ?_
        rintro e w9 ⟨rfl, k9⟩
        have hgot := (k9.block _ (lt_of_heap HM7.out.got)).trans HM7.out.got
        have hbel := HB7.out.trans (k9.mono HB7.out.size)
        clear k9
        have h9 := set11 hgot (.int .i64 0) (.bool false) (.bool false) (.string ⟨#[]⟩) (.int .i64 0) (.string ⟨#[]⟩) (.slice none 0 0) (.slice none 0 0) (.int .i64 0) (.int .i64 j) (.int .i64 ee)
        have b9 := below11 hbel (Nat.le_refl _) (.int .i64 0) (.bool false) (.bool false) (.string ⟨#[]⟩) (.int .i64 0) (.string ⟨#[]⟩) (.slice none 0 0) (.slice none 0 0) (.int .i64 0) (.int .i64 j) (.int .i64 ee)
        obtain ⟨z0, z1, z2, z3, z4, z5, z6, z7, z8, z9, z10⟩ := eleven h9
        obtain ⟨y0, y1, y2, y3, y4, y5, y6, y7, y8, y9, y10⟩ := eleven hgot
        have qf := free_of hgot
        clear h9
        go_wp2_with fail
        refine bodyPost_ret (v := .agg #[.int .i64 0, .bool false, .bool false, .string ⟨#[]⟩, .int .i64 0, .string ⟨#[]⟩, .slice none 0 0, .slice none 0 0, .int .i64 0, .int .i64 j, .int .i64 ee]) (by simp [results, Tryz.results39, go_sem, z0, z1, z2, z3, z4, z5, z6, z7, z8, z9, z10]) rfl ⟨HF.out _, b9⟩
end Go.Proofs.YtlfbnfphocpgeaaGreatDoor.Jdec
namespace Go.Proofs.YtlfbnfphocpgeaaGreatDoor.Num
/-- The table, row by row. -/
def tab : List Nat := [0, 0, 0, 0, 0, 0, 0,  0, 3, 4, 2, 0, 0, 0,  0, 3, 4, 0, 0, 0, 0,  0, 0, 0, 0, 0, 5, 7,  0, 4, 4, 0, 0, 5, 7,  0, 6, 6, 0, 0, 0, 0,  0, 6, 6, 0, 0, 0, 7,  0, 9, 9, 8, 8, 0, 0,  0, 9, 9, 0, 0, 0, 0,  0, 9, 9, 0, 0, 0, 0]
def stp (s c : Nat) : Nat := tab.getD (s * 7 + c) 0
/-- A byte's kind. -/
def sg (x : Nat) : Nat := if x = 48 then 1 else if 49 ≤ x ∧ x ≤ 57 then 2 else if x = 45 then 3 else if x = 43 then 4 else if x = 46 then 5 else if x = 101 ∨ x = 69 then 6 else 0
theorem sg_lt (x : Nat) : sg x < 7 := by unfold sg; (repeat' split) <;> omega
def fin (s : Nat) : Bool := s == 3 || s == 4 || s == 6 || s == 9
theorem stp_lt {s c : Nat} (hs : s < 10) (hc : c < 7) : stp s c < 10 := by
  have : ∀ s : Fin 10, ∀ c : Fin 7, stp s.1 c.1 < 10 := by decide
  exact this ⟨s, hs⟩ ⟨c, hc⟩
def dfa : Nat → List UInt8 → Nat → Nat → Nat
  | _, [], _, L => L
  | s, b :: r, i, L => if stp s (sg b.toNat) = 0 then L else dfa (stp s (sg b.toNat)) r (i + 1) (if fin (stp s (sg b.toNat)) then i + 1 else L)
theorem dfa_at {s : Nat} (h0 : stp s 0 = 0) (l : List UInt8) (i L : Nat) :
    dfa s (l.drop i) i L = if stp s (sg (nb l i)) = 0 then L else dfa (stp s (sg (nb l i))) (l.drop (i + 1)) (i + 1) (if fin (stp s (sg (nb l i))) then i + 1 else L) := by
  by_cases hl : i < l.length
  · rw [List.drop_eq_getElem_cons hl, dfa]
    have : nb l i = l[i].toNat := by
      unfold nb
      rw [List.getD_eq_getElem?_getD, List.getElem?_eq_getElem hl]
      rfl
    rw [this]
  · rw [List.drop_eq_nil_of_le (by omega), nb_past (by omega)]
    have : sg 0 = 0 := rfl
    rw [this, if_pos h0]
    rfl
theorem sg_dig {l : List UInt8} {i : Nat} (h : DigAt l i) : sg (nb l i) = 1 ∨ sg (nb l i) = 2 := by
  unfold DigAt at h
  unfold sg
  by_cases c : nb l i = 48
  · rw [if_pos c]; exact .inl rfl
  · rw [if_neg c, if_pos (by omega)]; exact .inr rfl
theorem sg_not {l : List UInt8} {i : Nat} (h : ¬ DigAt l i) : sg (nb l i) ≠ 1 ∧ sg (nb l i) ≠ 2 ∧ (sg (nb l i) = 3 ↔ nb l i = 45) ∧ (sg (nb l i) = 4 ↔ nb l i = 43) ∧ (sg (nb l i) = 5 ↔ nb l i = 46) ∧ (sg (nb l i) = 6 ↔ (nb l i = 101 ∨ nb l i = 69)) := by
  unfold DigAt at h
  unfold sg
  generalize nb l i = x at *
  rw [if_neg (by omega), if_neg (by omega)]
  by_cases c1 : x = 45
  · subst c1; simp
  by_cases c2 : x = 43
  · subst c2; simp
  by_cases c3 : x = 46
  · subst c3; simp
  by_cases c4 : x = 101 ∨ x = 69
  · simp [c1, c2, c3, c4]
  · simp [c1, c2, c3, c4]
theorem d9 (l : List UInt8) : ∀ (k i : Nat), l.length - i = k → dfa 9 (l.drop i) i i = run l i := by
  intro k
  induction k using Nat.strongRecOn with
  | ind k ih =>
    intro i hk
    rw [dfa_at rfl]
    by_cases h : DigAt l i
    · have hl := digAt_lt h
      rw [run_on h]
      have := ih (l.length - (i + 1)) (by omega) (i + 1) rfl
      rcases sg_dig h with e | e <;> rw [e] <;> exact this
    · rw [run_stop h]
      obtain ⟨a, b, _⟩ := sg_not h
      have := sg_lt (nb l i)
      generalize sg (nb l i) = c at *
      have : c = 0 ∨ c = 3 ∨ c = 4 ∨ c = 5 ∨ c = 6 := by omega
      rcases this with rfl | rfl | rfl | rfl | rfl <;> rfl
theorem d8 (l : List UInt8) (i L : Nat) : dfa 8 (l.drop i) i L = if DigAt l i then run l i else L := by
  rw [dfa_at rfl]
  by_cases h : DigAt l i
  · rw [if_pos h, run_on h]
    have := d9 l _ (i + 1) rfl
    rcases sg_dig h with e | e <;> rw [e] <;> exact this
  · rw [if_neg h]
    obtain ⟨a, b, _⟩ := sg_not h
    have := sg_lt (nb l i)
    generalize sg (nb l i) = c at *
    have : c = 0 ∨ c = 3 ∨ c = 4 ∨ c = 5 ∨ c = 6 := by omega
    rcases this with rfl | rfl | rfl | rfl | rfl <;> rfl
theorem d7 (l : List UInt8) (i L : Nat) : dfa 7 (l.drop i) i L = if DigAt l (signEnd l i) then run l (signEnd l i) else L := by
  rw [dfa_at rfl]
  by_cases h : DigAt l i
  · have hs : signEnd l i = i := by
      unfold signEnd
      unfold DigAt at h
      rw [if_neg (by omega)]
    rw [hs, if_pos h, run_on h]
    have := d9 l _ (i + 1) rfl
    rcases sg_dig h with e | e <;> rw [e] <;> exact this
  · obtain ⟨a, b, e3, e4, _⟩ := sg_not h
    by_cases c3 : nb l i = 45
    · have hs : signEnd l i = i + 1 := by unfold signEnd; rw [if_pos (.inr c3)]
      rw [e3.2 c3, hs]
      exact d8 l (i + 1) L
    by_cases c4 : nb l i = 43
    · have hs : signEnd l i = i + 1 := by unfold signEnd; rw [if_pos (.inl c4)]
      rw [e4.2 c4, hs]
      exact d8 l (i + 1) L
    · have hs : signEnd l i = i := by unfold signEnd; rw [if_neg (fun e => e.elim c4 c3)]
      rw [hs, if_neg h]
      have n3 : sg (nb l i) ≠ 3 := fun e => c3 (e3.1 e)
      have n4 : sg (nb l i) ≠ 4 := fun e => c4 (e4.1 e)
      have := sg_lt (nb l i)
      clear e3 e4
      generalize sg (nb l i) = c at *
      have : c = 0 ∨ c = 5 ∨ c = 6 := by omega
      rcases this with rfl | rfl | rfl <;> rfl
/-- Where a letter may follow. -/
theorem d_exp (l : List UInt8) (i : Nat) (h : ¬ DigAt l i) : (if sg (nb l i) = 6 then dfa 7 (l.drop (i + 1)) (i + 1) i else i) = expEnd l i := by
  obtain ⟨_, _, _, _, _, e6⟩ := sg_not h
  unfold expEnd
  by_cases c : nb l i = 101 ∨ nb l i = 69
  · rw [if_pos (e6.2 c), d7]
    by_cases hd : DigAt l (signEnd l (i + 1))
    · rw [if_pos hd, if_pos ⟨c, hd⟩]
    · rw [if_neg hd, if_neg (fun e => hd e.2)]
  · rw [if_neg (fun e => c (e6.1 e)), if_neg (fun e => c e.1)]
theorem expEnd_dig {l : List UInt8} {i : Nat} (h : DigAt l i) : expEnd l i = i := by
  unfold DigAt at h
  unfold expEnd
  rw [if_neg (by omega)]
theorem fracEnd_dig {l : List UInt8} {i : Nat} (h : DigAt l i) : fracEnd l i = i := by
  unfold DigAt at h
  unfold fracEnd
  rw [if_neg (by omega)]
theorem d6 (l : List UInt8) : ∀ (k i : Nat), l.length - i = k → dfa 6 (l.drop i) i i = expEnd l (run l i) := by
  intro k
  induction k using Nat.strongRecOn with
  | ind k ih =>
    intro i hk
    rw [dfa_at rfl]
    by_cases h : DigAt l i
    · have hl := digAt_lt h
      rw [run_on h]
      have := ih (l.length - (i + 1)) (by omega) (i + 1) rfl
      rcases sg_dig h with e | e <;> rw [e] <;> exact this
    · rw [run_stop h, ← d_exp l i h]
      obtain ⟨a, b, _⟩ := sg_not h
      have := sg_lt (nb l i)
      generalize sg (nb l i) = c at *
      have : c = 0 ∨ c = 3 ∨ c = 4 ∨ c = 5 ∨ c = 6 := by omega
      rcases this with rfl | rfl | rfl | rfl | rfl <;> rfl
theorem d5 (l : List UInt8) (i L : Nat) : dfa 5 (l.drop i) i L = if DigAt l i then expEnd l (run l i) else L := by
  rw [dfa_at rfl]
  by_cases h : DigAt l i
  · rw [if_pos h, run_on h]
    have := d6 l _ (i + 1) rfl
    rcases sg_dig h with e | e <;> rw [e] <;> exact this
  · rw [if_neg h]
    obtain ⟨a, b, _⟩ := sg_not h
    have := sg_lt (nb l i)
    generalize sg (nb l i) = c at *
    have : c = 0 ∨ c = 3 ∨ c = 4 ∨ c = 5 ∨ c = 6 := by omega
    rcases this with rfl | rfl | rfl | rfl | rfl <;> rfl
/-- Where a point or a letter may follow. -/
theorem d_frac (l : List UInt8) (i : Nat) (h : ¬ DigAt l i) : (if sg (nb l i) = 5 then dfa 5 (l.drop (i + 1)) (i + 1) i else if sg (nb l i) = 6 then dfa 7 (l.drop (i + 1)) (i + 1) i else i) = expEnd l (fracEnd l i) := by
  obtain ⟨_, _, _, _, e5, _⟩ := sg_not h
  by_cases c : nb l i = 46
  · rw [if_pos (e5.2 c), d5]
    unfold fracEnd
    by_cases hd : DigAt l (i + 1)
    · rw [if_pos hd, if_pos ⟨c, hd⟩]
    · rw [if_neg hd, if_neg (fun e => hd e.2)]
      unfold expEnd
      rw [if_neg (by omega)]
  · have hf : fracEnd l i = i := by unfold fracEnd; rw [if_neg (fun e => c e.1)]
    rw [if_neg (fun e => c (e5.1 e)), hf]
    exact d_exp l i h
theorem d3 (l : List UInt8) (i : Nat) : dfa 3 (l.drop i) i i = expEnd l (fracEnd l i) := by
  rw [dfa_at rfl]
  by_cases h : DigAt l i
  · rw [fracEnd_dig h, expEnd_dig h]
    rcases sg_dig h with e | e <;> rw [e] <;> rfl
  · rw [← d_frac l i h]
    obtain ⟨a, b, _⟩ := sg_not h
    have := sg_lt (nb l i)
    generalize sg (nb l i) = c at *
    have : c = 0 ∨ c = 3 ∨ c = 4 ∨ c = 5 ∨ c = 6 := by omega
    rcases this with rfl | rfl | rfl | rfl | rfl <;> rfl
theorem d4 (l : List UInt8) : ∀ (k i : Nat), l.length - i = k → dfa 4 (l.drop i) i i = expEnd l (fracEnd l (run l i)) := by
  intro k
  induction k using Nat.strongRecOn with
  | ind k ih =>
    intro i hk
    rw [dfa_at rfl]
    by_cases h : DigAt l i
    · have hl := digAt_lt h
      rw [run_on h]
      have := ih (l.length - (i + 1)) (by omega) (i + 1) rfl
      rcases sg_dig h with e | e <;> rw [e] <;> exact this
    · rw [run_stop h, ← d_frac l i h]
      obtain ⟨a, b, _⟩ := sg_not h
      have := sg_lt (nb l i)
      generalize sg (nb l i) = c at *
      have : c = 0 ∨ c = 3 ∨ c = 4 ∨ c = 5 ∨ c = 6 := by omega
      rcases this with rfl | rfl | rfl | rfl | rfl <;> rfl
/-- The first digit. -/
theorem d_head (l : List UInt8) (i : Nat) (h : DigAt l i) : dfa (stp 1 (sg (nb l i))) (l.drop (i + 1)) (i + 1) (i + 1) = expEnd l (fracEnd l (intEnd l i)) ∧ (stp 1 (sg (nb l i)) = 3 ∨ stp 1 (sg (nb l i)) = 4) := by
  unfold intEnd
  by_cases c : nb l i = 48
  · rw [if_pos c, c]
    exact ⟨d3 l (i + 1), .inl rfl⟩
  · have e : sg (nb l i) = 2 := by
      unfold DigAt at h
      unfold sg
      rw [if_neg c, if_pos (by omega)]
    rw [if_neg c, e, run_on h]
    exact ⟨d4 l _ (i + 1) rfl, .inr rfl⟩
theorem dfa_scan (l : List UInt8) : dfa 1 l 0 0 = scan l := by
  have h0 := dfa_at (s := 1) rfl l 0 0
  rw [List.drop_zero] at h0
  rw [h0]
  unfold scan neg0
  by_cases h : DigAt l 0
  · have c : nb l 0 ≠ 45 := by unfold DigAt at h; omega
    obtain ⟨e, e2⟩ := d_head l 0 h
    rw [if_neg c, if_pos h, ← e]
    rcases e2 with e2 | e2 <;> rw [e2] <;> rfl
  · obtain ⟨a, b, e3, _⟩ := sg_not h
    by_cases c : nb l 0 = 45
    · rw [if_pos c, e3.2 c]
      show dfa 2 (l.drop 1) 1 0 = _
      rw [dfa_at rfl]
      by_cases h1 : DigAt l 1
      · obtain ⟨e, e2⟩ := d_head l 1 h1
        rw [if_pos h1, ← e]
        have e4 : stp 2 (sg (nb l 1)) = stp 1 (sg (nb l 1)) := by rcases sg_dig h1 with e | e <;> rw [e] <;> rfl
        rw [e4]
        rcases e2 with e2 | e2 <;> rw [e2] <;> rfl
      · rw [if_neg h1]
        obtain ⟨a, b, _⟩ := sg_not h1
        have := sg_lt (nb l 1)
        generalize sg (nb l 1) = c at *
        have : c = 0 ∨ c = 3 ∨ c = 4 ∨ c = 5 ∨ c = 6 := by omega
        rcases this with rfl | rfl | rfl | rfl | rfl <;> rfl
    · rw [if_neg c, if_neg h]
      have n3 : sg (nb l 0) ≠ 3 := fun e => c (e3.1 e)
      have := sg_lt (nb l 0)
      clear e3
      generalize sg (nb l 0) = c at *
      have : c = 0 ∨ c = 4 ∨ c = 5 ∨ c = 6 := by omega
      rcases this with rfl | rfl | rfl | rfl <;> rfl
/-- What scans whole is in its parts. -/
theorem take_run {l : List UInt8} : (∀ c ∈ l.take (run l 0), dg c = true) ∧ l.take (run l 0) = l.takeWhile dg := by
  have e : l.take (run l 0) = l.takeWhile dg := by
    unfold run
    rw [List.drop_zero, Nat.zero_add]
    exact (List.prefix_iff_eq_take.1 (List.takeWhile_prefix dg)).symm
  exact ⟨fun c hc => by rw [e] at hc; exact List.all_eq_true.1 List.all_takeWhile c hc, e⟩
theorem digAt_run {l : List UInt8} (h : DigAt l 0) : 0 < run l 0 := by rw [run_on h]; exact run_ge l 1
theorem parts_of {l : List UInt8} (h : scan l = l.length) (h0 : l ≠ []) : ∃ n I F x, Parts I F x ∧ l = text n I F x := by
  obtain ⟨n, M, hM⟩ : ∃ n M, neg0 l = (negT n).length ∧ l = negT n ++ M := by
    unfold neg0
    by_cases c : nb l 0 = 45
    · obtain ⟨b, r, rfl⟩ := List.exists_cons_of_ne_nil h0
      refine ⟨true, r, by rw [if_pos c]; rfl, ?_⟩
      rw [nb_zero] at c
      rw [show b = 45 from UInt8.toNat_inj.1 c]
      rfl
    · exact ⟨false, l, by rw [if_neg c]; rfl, rfl⟩
  obtain ⟨hn, rfl⟩ := hM
  have hd : DigAt M 0 := by
    unfold scan at h
    rw [hn] at h
    split at h
    · rename_i hh
      exact (digAt_app (negT n) M 0).1 (by rw [Nat.add_zero]; exact hh)
    · exact absurd (List.length_eq_zero_iff.1 h.symm) h0
  have hs : expEnd M (fracEnd M (intEnd M 0)) = M.length := by
    unfold scan at h
    have hd' := (digAt_app (negT n) M 0).2 hd
    rw [Nat.add_zero] at hd'
    rw [hn, if_pos hd'] at h
    have e1 := intEnd_app (negT n) M 0
    rw [Nat.add_zero] at e1
    rw [e1, fracEnd_app, expEnd_app, List.length_append] at h
    omega
  clear h hn h0
  obtain ⟨I, R, rfl, hI0, hI, hh, hie⟩ : ∃ I R, M = I ++ R ∧ I ≠ [] ∧ (∀ c ∈ I, dg c = true) ∧ (I = [48] ∨ I.head? ≠ some 48) ∧ intEnd M 0 = I.length := by
    obtain ⟨b, r, rfl⟩ := List.exists_cons_of_ne_nil (show M ≠ [] by rintro rfl; revert hd; decide)
    unfold intEnd
    by_cases c : nb (b :: r) 0 = 48
    · rw [nb_zero] at c
      obtain rfl : b = 48 := UInt8.toNat_inj.1 c
      exact ⟨[48], r, rfl, by simp, by decide, .inl rfl, by rw [nb_zero]; rfl⟩
    · obtain ⟨t1, t2⟩ := take_run (l := b :: r)
      have hr := digAt_run hd
      refine ⟨(b :: r).take (run (b :: r) 0), (b :: r).drop (run (b :: r) 0), (List.take_append_drop _ _).symm, ?_, t1, .inr ?_, ?_⟩
      · intro e
        have := congrArg List.length e
        rw [List.length_take, List.length_cons, List.length_nil] at this
        omega
      · rw [List.head?_take, if_neg (by omega)]
        intro e
        rw [List.head?_cons] at e
        injection e with e
        subst e
        exact c rfl
      · rw [if_neg c, List.length_take]
        have := run_le (l := b :: r) (i := 0) (by simp)
        omega
  rw [hie] at hs
  have f1 := fracEnd_app I R 0
  rw [Nat.add_zero] at f1
  rw [f1, expEnd_app, List.length_append] at hs
  have hs : expEnd R (fracEnd R 0) = R.length := by omega
  clear f1 hie hd
  obtain ⟨F, Q, rfl, hF, hfe⟩ : ∃ F Q, R = fracT F ++ Q ∧ (∀ c ∈ F, dg c = true) ∧ fracEnd R 0 = (fracT F).length := by
    unfold fracEnd
    by_cases c : nb R 0 = 46 ∧ DigAt R (0 + 1)
    · obtain ⟨b, r, rfl⟩ := List.exists_cons_of_ne_nil (show R ≠ [] by rintro rfl; have := c.1; rw [nb_nil] at this; omega)
      have cb := c.1
      rw [nb_zero] at cb
      obtain rfl : b = 46 := UInt8.toNat_inj.1 cb
      have hd : DigAt r 0 := (digAt_app [46] r 0).1 c.2
      obtain ⟨t1, t2⟩ := take_run (l := r)
      have hr := digAt_run hd
      have hn : r.take (run r 0) ≠ [] := by
        intro e
        have hlt := digAt_lt hd
        have := congrArg List.length e
        rw [List.length_take, List.length_nil] at this
        omega
      refine ⟨r.take (run r 0), r.drop (run r 0), ?_, t1, ?_⟩
      · unfold fracT
        rw [if_neg hn, List.cons_append, List.take_append_drop]
      · rw [if_pos c]
        have e := run_app [46] r 0
        unfold fracT
        rw [if_neg hn, List.length_cons, List.length_take]
        have := run_le (l := r) (i := 0) (by simp)
        have e' : run (46 :: r) (0 + 1) = 1 + run r 0 := e
        rw [e']
        omega
    · exact ⟨[], R, rfl, by simp, by rw [if_neg c]; rfl⟩
  rw [hfe] at hs
  have f1 := expEnd_app (fracT F) Q 0
  rw [Nat.add_zero] at f1
  rw [f1, List.length_append] at hs
  have hs : expEnd Q 0 = Q.length := by omega
  clear f1 hfe
  obtain ⟨x, rfl, hx⟩ : ∃ x, Q = expT x ∧ ∀ m s E, x = some (m, s, E) → (m = 101 ∨ m = 69) ∧ (s = [] ∨ s = [43] ∨ s = [45]) ∧ E ≠ [] ∧ ∀ c ∈ E, dg c = true := by
    unfold expEnd at hs
    by_cases c : (nb Q 0 = 101 ∨ nb Q 0 = 69) ∧ DigAt Q (signEnd Q (0 + 1))
    · rw [if_pos c] at hs
      obtain ⟨b, r, rfl⟩ := List.exists_cons_of_ne_nil (show Q ≠ [] by rintro rfl; have := c.1; rw [nb_nil] at this; omega)
      obtain ⟨cb, cd⟩ := c
      have e1 : signEnd (b :: r) (0 + 1) = 1 + signEnd r 0 := signEnd_app [b] r 0
      rw [e1] at hs cd
      have e2 : run (b :: r) (1 + signEnd r 0) = 1 + run r (signEnd r 0) := run_app [b] r (signEnd r 0)
      have cd' : DigAt r (signEnd r 0) := (digAt_app [b] r (signEnd r 0)).1 cd
      rw [e2, List.length_cons] at hs
      obtain ⟨s, E, rfl, hs0, hse⟩ : ∃ s E, r = s ++ E ∧ (s = [] ∨ s = [43] ∨ s = [45]) ∧ signEnd r 0 = s.length := by
        unfold signEnd
        by_cases c : nb r 0 = 43 ∨ nb r 0 = 45
        · obtain ⟨y, r', rfl⟩ := List.exists_cons_of_ne_nil (show r ≠ [] by rintro rfl; rw [nb_nil] at c; omega)
          refine ⟨[y], r', rfl, ?_, by rw [if_pos c]; rfl⟩
          rw [nb_zero] at c
          rcases c with c | c
          · exact .inr (.inl (by rw [show y = 43 from UInt8.toNat_inj.1 c]))
          · exact .inr (.inr (by rw [show y = 45 from UInt8.toNat_inj.1 c]))
        · exact ⟨[], r, rfl, .inl rfl, by rw [if_neg c]; rfl⟩
      rw [hse] at hs cd'
      have e3 := run_app s E 0
      rw [Nat.add_zero] at e3
      have hE : DigAt E 0 := (digAt_app s E 0).1 cd'
      rw [e3, List.length_append] at hs
      have hr : run E 0 = E.length := by omega
      obtain ⟨t1, t2⟩ := take_run (l := E)
      rw [hr, List.take_length] at t1
      refine ⟨some (b, s, E), rfl, ?_⟩
      intro m s' E' e
      injection e with e
      injection e with e1 e2
      injection e2 with e2 e3
      subst e1; subst e2; subst e3
      rw [nb_zero] at cb
      refine ⟨?_, hs0, ?_, t1⟩
      · rcases cb with c | c
        · exact .inl (UInt8.toNat_inj.1 c)
        · exact .inr (UInt8.toNat_inj.1 c)
      · rintro rfl
        revert hE
        decide
    · rw [if_neg c] at hs
      obtain rfl : Q = [] := List.length_eq_zero_iff.1 hs.symm
      exact ⟨none, rfl, by simp⟩
  exact ⟨n, I, F, x, ⟨hI0, hI, hh, hF, hx⟩, rfl⟩
theorem intEnd_le' {l : List UInt8} {i : Nat} (h : DigAt l i) : intEnd l i ≤ l.length := by
  have := digAt_lt h
  unfold intEnd
  split
  · omega
  · exact run_le (by omega)
theorem fracEnd_le' {l : List UInt8} {i : Nat} (h : i ≤ l.length) : fracEnd l i ≤ l.length := by
  unfold fracEnd
  split
  · rename_i hh
    have := digAt_lt hh.2
    exact run_le (by omega)
  · exact h
theorem scan_le (l : List UInt8) : scan l ≤ l.length := by
  unfold scan
  split
  · rename_i hd
    unfold expEnd
    split
    · rename_i hh
      have := digAt_lt hh.2
      exact run_le (by omega)
    · exact fracEnd_le' (intEnd_le' hd)
  · omega
end Go.Proofs.YtlfbnfphocpgeaaGreatDoor.Num
namespace Go.Proofs.YtlfbnfphocpgeaaGreatDoor.Num
open Go

/-! the text's parts -/
/-- What stands behind the sign. -/
def rest (I F : List UInt8) (x : Option (UInt8 × List UInt8 × List UInt8)) : List UInt8 := I ++ (fracT F ++ expT x)
theorem head_not {I F : List UInt8} {x : Option (UInt8 × List UInt8 × List UInt8)} (h : Parts I F x) : ∃ c r, rest I F x = c :: r ∧ dg c = true := by
  obtain ⟨c, I', rfl⟩ := List.exists_cons_of_ne_nil h.ne
  exact ⟨c, I' ++ (fracT F ++ expT x), rfl, h.whole c (by simp)⟩
theorem cut_neg (n : Bool) {I F : List UInt8} {x : Option (UInt8 × List UInt8 × List UInt8)} (h : Parts I F x) :
    Lib.trimPrefix (text n I F x) [45] = rest I F x ∧ Lib.hasPrefix (text n I F x) [45] = n := by
  obtain ⟨c, r, e, hc⟩ := head_not h
  have hc' := dg_num hc
  have ht : text n I F x = negT n ++ (c :: r) := by rw [← e]; rfl
  rw [ht, e]
  cases n with
  | true => exact ⟨rfl, rfl⟩
  | false =>
    have h45 : (45 == c) = false := by
      rw [beq_eq_false_iff_ne]
      rintro rfl
      revert hc'
      decide
    have hp : Lib.hasPrefix (c :: r) [45] = false := by
      show List.isPrefixOf [45] (c :: r) = false
      simp [List.isPrefixOf, h45]
    refine ⟨?_, hp⟩
    show Lib.trimPrefix (c :: r) [45] = c :: r
    unfold Lib.trimPrefix
    rw [hp]
    rfl
/-- Bytes that are none of a number's. -/
theorem any_app {A B : List UInt8} (ch : List UInt8) (hA : ∀ c ∈ A, ch.contains c = false) : Lib.indexAny (A ++ B) ch = if Lib.indexAny B ch = -1 then -1 else A.length + Lib.indexAny B ch := by
  induction A with
  | nil => simp only [List.nil_append, List.length_nil]; split <;> omega
  | cons a A ih =>
    have hge := Lib.indexAny_ge ch B
    rw [List.cons_append, Lib.indexAny, hA a (by simp), ih (fun c hc => hA c (by simp [hc]))]
    by_cases h : Lib.indexAny B ch = -1
    · simp [h]
    · simp only [h, if_false, Bool.false_eq_true, List.length_cons]
      rw [if_neg (by simp; omega)]
      omega
theorem byte_app {A B : List UInt8} (ch : UInt8) (hA : ∀ c ∈ A, (c == ch) = false) : Lib.indexByte (A ++ B) ch = if Lib.indexByte B ch = -1 then -1 else A.length + Lib.indexByte B ch := by
  induction A with
  | nil => simp only [List.nil_append, List.length_nil]; split <;> omega
  | cons a A ih =>
    have hge := Lib.indexByte_ge B ch
    rw [List.cons_append, Lib.indexByte, hA a (by simp), ih (fun c hc => hA c (by simp [hc]))]
    by_cases h : Lib.indexByte B ch = -1
    · simp [h]
    · simp only [h, if_false, Bool.false_eq_true, List.length_cons]
      rw [if_neg (by simp; omega)]
      omega
def mantT (I F : List UInt8) : List UInt8 := I ++ fracT F
theorem mant_none {I F : List UInt8} (hI : ∀ c ∈ I, dg c = true) (hF : ∀ c ∈ F, dg c = true) : ∀ c ∈ mantT I F, ([101, 69] : List UInt8).contains c = false := by
  intro c hc
  have hd : dg c = true ∨ c = 46 := by
    unfold mantT fracT at hc
    rcases List.mem_append.1 hc with h | h
    · exact .inl (hI c h)
    · split at h
      · cases h
      · rcases List.mem_cons.1 h with h | h
        · exact .inr h
        · exact .inl (hF c h)
  rcases hd with h | rfl
  · have := dg_num h
    cases hh : ([101, 69] : List UInt8).contains c with
    | false => rfl
    | true =>
      exfalso
      simp at hh
      rcases hh with rfl | rfl <;> revert this <;> decide
  · rfl
theorem e_none {I F : List UInt8} (h : Parts I F none) : rest I F none = mantT I F ∧ Lib.indexAny (mantT I F) [101, 69] = -1 := by
  refine ⟨by simp [rest, mantT, expT], ?_⟩
  have := any_app (B := []) [101, 69] (mant_none h.whole h.frac)
  rw [List.append_nil] at this
  rw [this]
  rfl
theorem e_some {I F : List UInt8} {m : UInt8} {s E : List UInt8} (h : Parts I F (some (m, s, E))) :
    Lib.indexAny (rest I F (some (m, s, E))) [101, 69] = ((mantT I F).length : Nat) ∧ (rest I F (some (m, s, E))) = mantT I F ++ (m :: (s ++ E)) := by
  have e : rest I F (some (m, s, E)) = mantT I F ++ (m :: (s ++ E)) := by simp [rest, mantT, expT]
  refine ⟨?_, e⟩
  rw [e, any_app [101, 69] (mant_none h.whole h.frac)]
  have hm : Lib.indexAny (m :: (s ++ E)) [101, 69] = 0 := by
    rw [Lib.indexAny]
    rcases (h.mark m s E rfl).1 with rfl | rfl <;> rfl
  rw [hm]
  simp
/-- All of it is ASCII. -/
theorem dg_asc {c : UInt8} (h : dg c = true) : c.toNat < 128 := by have := dg_num h; omega
theorem rest_asc {I F : List UInt8} {x : Option (UInt8 × List UInt8 × List UInt8)} (h : Parts I F x) : ∀ c ∈ rest I F x, c.toNat < 128 := by
  intro c hc
  unfold rest fracT at hc
  rcases List.mem_append.1 hc with hc | hc
  · exact dg_asc (h.whole c hc)
  rcases List.mem_append.1 hc with hc | hc
  · split at hc
    · cases hc
    · rcases List.mem_cons.1 hc with rfl | hc
      · decide
      · exact dg_asc (h.frac c hc)
  · match x, h with
    | none, _ => cases hc
    | some (m, s, E), h =>
      obtain ⟨hm, hs, hE, hd⟩ := h.mark m s E rfl
      rcases List.mem_cons.1 hc with rfl | hc
      · rcases hm with rfl | rfl <;> decide
      rcases List.mem_append.1 hc with hc | hc
      · rcases hs with rfl | rfl | rfl
        · cases hc
        · rw [List.mem_singleton] at hc; subst hc; decide
        · rw [List.mem_singleton] at hc; subst hc; decide
      · exact dg_asc (hd c hc)
/-- The point. -/
theorem point_at {I F : List UInt8} (hI : ∀ c ∈ I, dg c = true) : Lib.indexByte (mantT I F) 46 = if F = [] then -1 else ((I.length : Nat) : Int) := by
  have hn : ∀ c ∈ I, (c == 46) = false := by
    intro c hc
    rw [beq_eq_false_iff_ne]
    rintro rfl
    have := dg_num (hI 46 hc)
    revert this
    decide
  unfold mantT
  rw [byte_app 46 hn]
  unfold fracT
  by_cases h : F = []
  · simp [h, Lib.indexByte]
  · simp [h, Lib.indexByte]
theorem trim_l (d : List UInt8) : Lib.trimLeftB d 48 = d.dropWhile z48 := by
  unfold Lib.trimLeftB
  congr 1
theorem trim_r (d : List UInt8) (e : Int) : Lib.trimRightB d 48 = (strip d e).1 := by
  unfold Lib.trimRightB strip
  congr 2

/-! the power -/
def capT : Nat := 1099511627776
def powN (E : List UInt8) : Nat := E.foldl (fun a c => min (10 * a + (c.toNat - 48)) capT) 0
def powZ (s E : List UInt8) : Int := if s = [45] then -(powN E : Int) else powN E
theorem powN_snoc (E : List UInt8) (c : UInt8) : powN (E ++ [c]) = min (10 * powN E + (c.toNat - 48)) capT := by simp [powN]
theorem powN_le (E : List UInt8) : powN E ≤ capT := by
  rcases List.eq_nil_or_concat E with rfl | ⟨E', c, rfl⟩
  · decide
  · rw [List.concat_eq_append, powN_snoc]
    exact Nat.min_le_right _ _
/-- The program's power and the document's: the same, or both too far. -/
theorem pow_like (E : List UInt8) (hE : ∀ c ∈ E, dg c = true) (b : Bool) : ((E.foldl expStep (0, b)).2 = b) ∧ ((E.foldl expStep (0, b)).1 = powN E ∧ powN E < 10000000000 ∨ 1000000000 ≤ (E.foldl expStep (0, b)).1 ∧ (E.foldl expStep (0, b)).1 < 10000000000 ∧ 1000000000 ≤ powN E) := by
  obtain ⟨k, hk⟩ : ∃ k, E.length = k := ⟨_, rfl⟩
  induction k generalizing E with
  | zero =>
    obtain rfl := List.length_eq_zero_iff.1 hk
    exact ⟨rfl, .inl ⟨rfl, by decide⟩⟩
  | succ k ih0 =>
    obtain ⟨E', c, rfl⟩ : ∃ E' c, E = E' ++ [c] := by
      rcases List.eq_nil_or_concat E with rfl | ⟨E', c, rfl⟩
      · simp at hk
      · exact ⟨E', c, List.concat_eq_append⟩
    have ih := fun h => ih0 E' h (by simpa using hk)
    clear ih0 hk
    have hc := dg_num (hE c (by simp))
    have h45 : decide (c = 45) = false := by
      rw [decide_eq_false_iff_not]
      rintro rfl
      revert hc
      decide
    obtain ⟨i1, i2⟩ := ih (fun x hx => hE x (by simp [hx]))
    rw [List.foldl_append, powN_snoc, List.foldl_cons, List.foldl_nil]
    generalize E'.foldl expStep (0, b) = st at *
    generalize powN E' = pw at *
    obtain ⟨v, b'⟩ := st
    dsimp only at i1 i2
    subst i1
    have hcap : capT = 1099511627776 := rfl
    unfold expStep
    dsimp only
    rw [h45, Bool.or_false]
    refine ⟨rfl, ?_⟩
    by_cases hv : v < 1000000000
    · rw [if_pos ⟨hE c (by simp), hv⟩]
      rcases i2 with ⟨e, h⟩ | ⟨h, _⟩
      · subst e
        left
        omega
      · omega
    · rw [if_neg (fun e => hv e.2)]
      right
      rcases i2 with ⟨e, h⟩ | ⟨h1, h2, h3⟩
      · subst e; omega
      · omega
theorem strip_len (d : List UInt8) (e : Int) : (strip d e).1.length ≤ d.length ∧ (strip d e).2 = e + d.length - (strip d e).1.length := by
  obtain ⟨k, h1, h2, _⟩ := strip_val d e
  have := congrArg List.length h2
  rw [List.length_append, noughts_len] at this
  omega
/-- Too far: no number that is right. -/
theorem norm_far (n : Bool) (d : List UInt8) {e e' : Int} (hd : d.length < 1000000) (h : 10000000 < e ∧ 10000000 < e' ∨ e < -10000000 ∧ e' < -10000000) : norm n d e = norm n d e' := by
  have h1 : (strip d e).1 = (strip d e').1 := rfl
  obtain ⟨a1, a2⟩ := strip_len d e
  obtain ⟨b1, b2⟩ := strip_len d e'
  unfold norm
  rw [← h1]
  by_cases h0 : (strip d e).1 = []
  · rw [if_pos h0, if_pos h0]
  · rw [if_neg h0, if_neg h0]
    have n1 : ¬ Right ⟨n, (strip d e).1, (strip d e).2⟩ := by
      intro hr
      have := right_exp hr
      dsimp only at this
      omega
    have n2 : ¬ Right ⟨n, (strip d e).1, (strip d e').2⟩ := by
      intro hr
      have := right_exp hr
      dsimp only at this
      rw [← h1] at b2
      omega
    rw [if_neg n1, if_neg n2]
def expZ : Option (UInt8 × List UInt8 × List UInt8) → Int
  | none => 0
  | some (_, s, E) => powZ s E
theorem expo_parts (s E : List UInt8) (hs : s = [] ∨ s = [43] ∨ s = [45]) : expo (s ++ E) = E.foldl expStep (0, decide (s = [45])) := by
  unfold expo
  rw [List.foldl_append]
  rcases hs with rfl | rfl | rfl <;> rfl
/-- What is parsed, by the program's own power. -/
theorem parse_prog (n : Bool) {I F : List UInt8} {x : Option (UInt8 × List UInt8 × List UInt8)} (h : Parts I F x) (hl : (text n I F x).length < 100000) :
    parse (text n I F x) = norm n ((I ++ F).dropWhile z48) (expZ x - F.length) := by
  have h0 := neg0_text n h
  have hs := scan_text n h
  have hm := mantL_text n h
  have hne : text n I F x ≠ [] := text_ne n h
  have hneg : decide (nb (text n I F x) 0 = 45) = n := by
    unfold neg0 at h0
    cases n with
    | true => rfl
    | false =>
      split at h0
      · cases h0
      · rename_i hh
        simp [hh]
  have hlF : F.length < 100000 ∧ ((I ++ F).dropWhile z48).length < 1000000 := by
    have h1 : ((I ++ F).dropWhile z48).length ≤ (I ++ F).length := (List.dropWhile_sublist _).length_le
    have h2 : (text n I F x).length = (negT n).length + (I.length + ((fracT F).length + (expT x).length)) := by simp [text]
    have h3 : F.length ≤ (fracT F).length := by unfold fracT; split <;> simp_all
    rw [List.length_append] at h1
    omega
  unfold parse
  rw [if_neg (by rw [hs]; simp [hne]), hm, mant_text h.whole h.frac, hneg, h0]
  have hdrop : (text n I F x).drop ((negT n).length + (I ++ fracT F).length + 1) = (expT x).drop 1 := by
    have e : text n I F x = (negT n ++ (I ++ fracT F)) ++ expT x := by simp [text]
    rw [e, ← List.length_append, List.drop_append, List.drop_eq_nil_of_le (by omega), List.nil_append]
    congr 1
    omega
  rw [hdrop]
  dsimp only
  match x, h with
  | none, _ =>
    show norm n _ (-(F.length : Int) + powOf (expo [])) = norm n _ (0 - (F.length : Int))
    congr 1
    show -(F.length : Int) + 0 = 0 - (F.length : Int)
    omega
  | some (m, s, E), h =>
    obtain ⟨_, hss, _, hE⟩ := h.mark m s E rfl
    show norm n _ (-(F.length : Int) + powOf (expo (s ++ E))) = norm n _ (powZ s E - (F.length : Int))
    rw [expo_parts s E hss]
    obtain ⟨p1, p2⟩ := pow_like E hE (decide (s = [45]))
    unfold powOf powZ
    rw [p1]
    generalize (E.foldl expStep (0, decide (s = [45]))).1 = v at *
    generalize powN E = v' at *
    by_cases c : s = [45]
    · rw [decide_eq_true c, if_pos c, if_pos rfl]
      rcases p2 with ⟨e, _⟩ | ⟨q1, q2, q3⟩
      · subst e
        congr 1
        omega
      · exact norm_far n _ hlF.2 (.inr ⟨by omega, by omega⟩)
    · rw [decide_eq_false c, if_neg c, if_neg (by simp)]
      rcases p2 with ⟨e, _⟩ | ⟨q1, q2, q3⟩
      · subst e
        congr 1
        omega
      · exact norm_far n _ hlF.2 (.inl ⟨by omega, by omega⟩)
end Go.Proofs.YtlfbnfphocpgeaaGreatDoor.Num
namespace Go.Proofs.YtlfbnfphocpgeaaGreatDoor.Num
open Go.RowKit Kit
set_option maxRecDepth 100000 in
set_option maxHeartbeats 1000000 in
theorem nright_all {w : World} {n : Dec} (hl : n.dig.length < 1000000000) :
    Calls Tryz.prog 100 #[numV n] w fun e w' => e = .returned (.bool (decide (Right n))) ∧ Below w.heap.size w w' := by
  obtain ⟨ng, l, ex⟩ := n
  simp only [numV]
  have hs := txt_size l
  have b0 : Below w.heap.size w (w.alloc (.cells #[.bool ng, .string (txt l), .int .i64 ex] 25)) := (Below.refl _ w).alloc (Nat.le_refl _) _
  by_cases h0 : l = []
  · subst h0
    have hR : decide (Right ⟨ng, [], ex⟩) = (!ng && decide (ex = 0)) := by unfold Right; cases ng <;> simp
    rw [hR]
    simp only [List.length_nil] at hs
    have he : (txt []).toList = [] := by unfold txt; rw [ByteArray.toList_mk]
    cases ng with
    | true =>
      go_enter Tryz.func100, Tryz.ntmps100
      go_wp2_with fail
      go_ret
      exact ⟨rfl, b0⟩
    | false =>
      by_cases h1 : ex = 0
      · subst h1
        go_enter Tryz.func100, Tryz.ntmps100
        go_wp2_with fail
        go_ret
        exact ⟨rfl, b0⟩
      · have h1' : (ex == 0) = false := by simp [h1]
        go_enter Tryz.func100, Tryz.ntmps100
        go_wp2_with fail
        go_ret
        exact ⟨by simp, b0⟩
  · have hn : 0 < l.length := by
      cases l with
      | nil => exact absurd rfl h0
      | cons _ _ => simp
    have hRi : Right ⟨ng, l, ex⟩ ↔ (l.length ≤ 1000 ∧ -10000 ≤ ex ∧ ex ≤ 10000 ∧ (∀ c ∈ l, dg c = true) ∧ nb l 0 ≠ 48 ∧ nb l (l.length - 1) ≠ 48) := by
      unfold Right; rw [if_neg h0]
    have he1 : (txt l).toList.isEmpty = false := by unfold txt; rw [ByteArray.toList_mk]; simp [h0]
    have he2 : ((txt l).toList == []) = false := by unfold txt; rw [ByteArray.toList_mk]; simp [h0]
    by_cases hb : l.length ≤ 1000 ∧ -10000 ≤ ex ∧ ex ≤ 10000
    · have c1 : decide ((1000 : Int) < (l.length : Int)) = false := by simp; omega
      have c2 : decide (ex < -10000) = false := by simp; omega
      have c3 : decide ((10000 : Int) < ex) = false := by simp; omega
      go_enter Tryz.func100, Tryz.ntmps100
      go_wp2_with fail
      go_loopw [32] (fun j wr => ∃ k : Nat, j = .int .i64 k ∧ k ≤ l.length ∧ (∀ c ∈ l.take k, dg c = true) ∧ wr = w.alloc (.cells #[.bool ng, .string (txt l), .int .i64 ex] 25)) (fun j _ => l.length - (intOf j).toNat)
      case atStart => exact ⟨0, rfl, Nat.zero_le _, by simp, rfl⟩
      case round =>
        obtain ⟨k, rfl, hk, hall, rfl⟩ := hrel
        by_cases hlt : k < l.length
        · have hlt' : (k : Int) < (l.length : Int) := by omega
          have i1 := idx hlt
          by_cases h : DigAt l k
          · have hall2 : ∀ c ∈ l.take (k + 1), dg c = true := by
              rw [List.take_succ_eq_append_getElem hlt]
              intro c hc
              rcases List.mem_append.1 hc with hc | hc
              · exact hall c hc
              · rw [List.mem_singleton] at hc
                subst hc
                exact (digAt_dg hlt).1 h
            have HA := Lib.hid hall2
            unfold DigAt at h
            have d1 : decide ((nb l k : Int) < 48) = false := by simp; omega
            have d2 : decide ((57 : Int) < (nb l k : Int)) = false := by simp; omega
            generalize nb l k = x at *
            clear hall hall2 h hRi
            go_wp2_with fail
            go_roundw
            case rel => exact ⟨k + 1, by go_num, by omega, HA.out, by first | trivial | rfl⟩
            case measure => simp [intOf]; omega
          · have hR : decide (Right ⟨ng, l, ex⟩) = false := decide_eq_false (fun e => h ((digAt_dg hlt).2 ((hRi.1 e).2.2.2.1 _ (List.getElem_mem hlt))))
            have HR := Lib.hid hR
            unfold DigAt at h
            generalize nb l k = x at *
            clear hall hRi hR
            by_cases h1 : x < 48
            · have d1 : (x : Int) < 48 := by omega
              clear h
              go_wp2_with fail
              go_ret
              rw [HR.out]
              exact ⟨rfl, b0⟩
            · have d1 : decide ((x : Int) < 48) = false := by simp; omega
              have d2 : (57 : Int) < (x : Int) := by omega
              clear h h1
              go_wp2_with fail
              go_ret
              rw [HR.out]
              exact ⟨rfl, b0⟩
        · obtain rfl : k = l.length := by omega
          rw [List.take_length] at hall
          have i1 := idx hn
          rw [show ((0 : Nat) : Int) = 0 from rfl] at i1
          have i2 := idx (l := l) (i := l.length - 1) (by omega)
          have hci : ((l.length - 1 : Nat) : Int) = (l.length : Int) - 1 := by omega
          rw [hci] at i2
          by_cases h1 : nb l 0 = 48
          · have hR : decide (Right ⟨ng, l, ex⟩) = false := decide_eq_false (fun e => (hRi.1 e).2.2.2.2.1 h1)
            have HR := Lib.hid hR
            rw [h1] at i1
            clear hall hRi hR hci i2
            go_wp2_with fail
            go_ret
            rw [HR.out]
            exact ⟨rfl, b0⟩
          · have h1' : ((nb l 0 : Int) != 48) = true := by simp; omega
            by_cases h2 : nb l (l.length - 1) = 48
            · have hR : decide (Right ⟨ng, l, ex⟩) = false := decide_eq_false (fun e => (hRi.1 e).2.2.2.2.2 h2)
              have HR := Lib.hid hR
              rw [h2] at i2
              clear hall hRi hR hci
              go_wp2_with fail
              go_ret
              rw [HR.out]
              exact ⟨rfl, b0⟩
            · have h2' : ((nb l (l.length - 1) : Int) != 48) = true := by simp; omega
              have hR : decide (Right ⟨ng, l, ex⟩) = true := decide_eq_true (hRi.2 ⟨hb.1, hb.2.1, hb.2.2, hall, h1, h2⟩)
              have HR := Lib.hid hR
              generalize nb l (l.length - 1) = y at *
              generalize nb l 0 = x at *
              clear hall hRi hR hci
              go_wp2_with fail
              go_ret
              rw [HR.out]
              exact ⟨rfl, b0⟩
    · have hR : decide (Right ⟨ng, l, ex⟩) = false := decide_eq_false (fun e => hb ⟨(hRi.1 e).1, (hRi.1 e).2.1, (hRi.1 e).2.2.1⟩)
      have HR := Lib.hid hR
      have hc : (1000 : Int) < (l.length : Int) ∨ (decide ((1000 : Int) < (l.length : Int)) = false ∧ ex < -10000) ∨ (decide ((1000 : Int) < (l.length : Int)) = false ∧ decide (ex < -10000) = false ∧ (10000 : Int) < ex) := by
        simp
        omega
      clear hRi hR hb
      rcases hc with c1 | ⟨c1, c2⟩ | ⟨c1, c2, c3⟩
      all_goals
        go_enter Tryz.func100, Tryz.ntmps100
        go_wp2_with fail
        go_ret
        rw [HR.out]
        exact ⟨rfl, b0⟩
/-- The table in memory. -/
def tcells : Array Value := (tab.map fun k => Value.int .i64 (k : Nat)).toArray
def Tab (w : World) : Prop := ∃ t fr, w.heap[0]? = some (.cells tcells t fr)
theorem Tab.below {w w' : World} (h : Tab w) (k : Below w.heap.size w w') : Tab w' := by
  obtain ⟨t, fr, hh⟩ := h
  exact ⟨t, fr, (k.block _ (lt_of_heap hh)).trans hh⟩
theorem tab_get {s c : Nat} (hs : s < 10) (hc : c < 7) : tcells[s * 7 + c]? = some (.int .i64 (stp s c : Nat)) := by
  have hl : s * 7 + c < tab.length := by show _ < 70; omega
  have e : tab[s * 7 + c]? = some (stp s c) := by
    unfold stp
    rw [List.getD_eq_getElem?_getD, List.getElem?_eq_getElem hl]
    rfl
  unfold tcells
  rw [List.getElem?_toArray, List.getElem?_map, e]
  rfl
theorem Tab.at {w : World} (h : Tab w) {s c : Nat} (hs : s < 10) (hc : c < 7) : w.cell? ⟨0, s * 7 + c, none⟩ = some (.int .i64 (stp s c : Nat)) := by
  obtain ⟨t, fr, hh⟩ := h
  have := tab_get hs hc
  simp only [World.cell?, hh]
  simpa using this
set_option maxRecDepth 100000 in
set_option maxHeartbeats 1000000 in
theorem sign_any {w : World} {x : Nat} : Calls Tryz.prog 93 #[.int .u8 x] w fun e w' => e = .returned (.int .i64 (sg x)) ∧ w' = w := by
  have hk : x = 48 ∨ x = 49 ∨ x = 50 ∨ x = 51 ∨ x = 52 ∨ x = 53 ∨ x = 54 ∨ x = 55 ∨ x = 56 ∨ x = 57 ∨ x = 45 ∨ x = 43 ∨ x = 46 ∨ x = 101 ∨ x = 69 ∨
      (x ≠ 48 ∧ ¬ (49 ≤ x ∧ x ≤ 57) ∧ x ≠ 45 ∧ x ≠ 43 ∧ x ≠ 46 ∧ ¬ (x = 101 ∨ x = 69)) := by omega
  rcases hk with rfl | rfl | rfl | rfl | rfl | rfl | rfl | rfl | rfl | rfl | rfl | rfl | rfl | rfl | rfl | ⟨a1, a2, a3, a4, a5, a6⟩
  iterate 15
    · go_enter Tryz.func93, Tryz.ntmps93
      go_wp2_with fail
      go_ret
      exact ⟨rfl, rfl⟩
  have hsg : sg x = 0 := by
    unfold sg
    rw [if_neg a1, if_neg a2, if_neg a3, if_neg a4, if_neg a5, if_neg a6]
  have n1 : ((x : Int) == 48) = false := by simp; omega
  have n2 : ((x : Int) == 49) = false := by simp; omega
  have n3 : ((x : Int) == 50) = false := by simp; omega
  have n4 : ((x : Int) == 51) = false := by simp; omega
  have n5 : ((x : Int) == 52) = false := by simp; omega
  have n6 : ((x : Int) == 53) = false := by simp; omega
  have n7 : ((x : Int) == 54) = false := by simp; omega
  have n8 : ((x : Int) == 55) = false := by simp; omega
  have n9 : ((x : Int) == 56) = false := by simp; omega
  have n10 : ((x : Int) == 57) = false := by simp; omega
  have n11 : ((x : Int) == 45) = false := by simp; omega
  have n12 : ((x : Int) == 43) = false := by simp; omega
  have n13 : ((x : Int) == 46) = false := by simp; omega
  have n14 : ((x : Int) == 101) = false := by simp; omega
  have n15 : ((x : Int) == 69) = false := by simp; omega
  rw [hsg]
  clear a1 a2 a3 a4 a5 a6 hsg
  go_enter Tryz.func93, Tryz.ntmps93
  go_wp2_with fail
  go_ret
  exact ⟨rfl, rfl⟩
set_option maxRecDepth 100000 in
theorem mayEnd_any {w : World} {s : Nat} (hs : s < 10) : Calls Tryz.prog 94 #[.int .i64 s] w fun e w' => e = .returned (.bool (fin s)) ∧ w' = w := by
  have hk : s = 0 ∨ s = 1 ∨ s = 2 ∨ s = 3 ∨ s = 4 ∨ s = 5 ∨ s = 6 ∨ s = 7 ∨ s = 8 ∨ s = 9 := by omega
  rcases hk with rfl | rfl | rfl | rfl | rfl | rfl | rfl | rfl | rfl | rfl
  all_goals
    go_enter Tryz.func94, Tryz.ntmps94
    go_wp2_with fail
    go_ret
    exact ⟨rfl, rfl⟩
theorem dfa_stop {s i L : Nat} {l : List UInt8} (hs : 0 < s ∧ s < 10) (h : stp s (sg (nb l i)) = 0) : dfa s (l.drop i) i L = L := by
  have h0 : stp s 0 = 0 := by
    have : ∀ s : Fin 10, stp s.1 0 = 0 := by decide
    exact this ⟨s, hs.2⟩
  rw [dfa_at h0, if_pos h]
theorem dfa_go {s i L : Nat} {l : List UInt8} (hs : 0 < s ∧ s < 10) (h : stp s (sg (nb l i)) ≠ 0) : dfa s (l.drop i) i L = dfa (stp s (sg (nb l i))) (l.drop (i + 1)) (i + 1) (if fin (stp s (sg (nb l i))) then i + 1 else L) := by
  have h0 : stp s 0 = 0 := by
    have : ∀ s : Fin 10, stp s.1 0 = 0 := by decide
    exact this ⟨s, hs.2⟩
  rw [dfa_at h0, if_neg h]
set_option maxRecDepth 100000 in
set_option maxHeartbeats 2000000 in
theorem nscan_tab {w : World} (ho : Tab w) {l : List UInt8} (hl : l.length < 100000) :
    Calls Tryz.prog 66 #[.string (txt l)] w fun e w' => e = .returned (.int .i64 (scan l)) ∧ Below w.heap.size w w' := by
  have hs := txt_size l
  have hd0 := dfa_scan l
  go_enter Tryz.func66, Tryz.ntmps66
  go_wp2_with fail
  go_loopw [3, 4, 8] (fun L s i wr => ∃ (k st Lg : Nat), L = .int .i64 Lg ∧ s = .int .i64 st ∧ i = .int .i64 k ∧ k ≤ l.length ∧ (0 < st ∧ st < 10) ∧ dfa st (l.drop k) k Lg = scan l ∧ Below w.heap.size w wr) (fun _ _ i _ => l.length - (intOf i).toNat)
  case atStart => exact ⟨0, 1, 0, rfl, rfl, rfl, Nat.zero_le _, by decide, hd0, Below.refl _ _⟩
  case round =>
    clear hd0
    obtain ⟨k, st, Lg, rfl, rfl, rfl, hk, hst, hd, hbel⟩ := hrel
    have hT := ho.below hbel
    by_cases hlt : k < l.length
    · have hlt' : (k : Int) < (l.length : Int) := by omega
      have i1 := idx hlt
      have hc := sg_lt (nb l k)
      have hsl := stp_lt hst.2 hc
      have hcell := hT.at hst.2 hc
      have hsgn := fun wx => sign_any (w := wx) (x := nb l k)
      have hstop := dfa_stop (L := Lg) (i := k) (l := l) hst
      have hgo := dfa_go (L := Lg) (i := k) (l := l) hst
      generalize nb l k = x at *
      generalize hcx : sg x = c at *
      generalize hsx : stp st c = s2 at *
      have hst0 := hst.1
      have hst1 := hst.2
      have c1 : ((st : Int)) < 10 := by omega
      have c2 : ((c : Int)) < 7 := by omega
      have bd := below_drewN hbel 1
      have HGO := Lib.hid hgo
      have HSTOP := Lib.hid hstop
      have HD := Lib.hid hd
      have HH := Lib.hid hT
      clear hgo hstop hd hT ho hst
      go_wp2_with fail
      go_region_held3 (fun wx => wx.cell? ⟨0, st * 7 + c, none⟩ = some (.int .i64 (s2 : Nat)) ∧ Below w.heap.size w wx)
        (first | exact ⟨hcell, bd⟩ | assumption)
        (first | (go_at_call 93; refine (hsgn _).mono ?_; rintro e wx ⟨rfl, rfl⟩))
      clear hcell
      by_cases h0 : s2 = 0
      · have hL : Lg = scan l := (HSTOP.out h0).symm.trans HD.out
        have HL := Lib.hid hL
        subst h0
        clear HGO HSTOP HD hL hsx hcx
        go_wp2_with fail
        go_ret
        rw [HL.out]
        exact ⟨rfl, bd⟩
      · have h0' : ((s2 : Int) == 0) = false := by simp; omega
        have hme := mayEnd_any (w := World.drew wr) (s := s2) hsl
        have hd2 := (HGO.out h0).symm.trans HD.out
        have hpos : 0 < s2 := by omega
        clear HGO HSTOP HD hsx hcx
        cases hf : fin s2 with
        | true =>
          rw [hf] at hme
          rw [hf, if_pos rfl] at hd2
          have HD := Lib.hid hd2
          clear hd2 h0 hf
          go_wp2_with fail
          refine hme.mono ?_
          rintro e wx ⟨rfl, rfl⟩
          go_wp2_with fail
          go_roundw
          case rel => exact ⟨k + 1, s2, k + 1, by go_num, rfl, by go_num, by omega, ⟨hpos, hsl⟩, HD.out, bd⟩
          case measure => simp [intOf]; omega
        | false =>
          rw [hf] at hme
          rw [hf, if_neg (by simp)] at hd2
          have HD := Lib.hid hd2
          clear hd2 h0 hf
          go_wp2_with fail
          refine hme.mono ?_
          rintro e wx ⟨rfl, rfl⟩
          go_wp2_with fail
          go_roundw
          case rel => exact ⟨k + 1, s2, Lg, rfl, rfl, by go_num, by omega, ⟨hpos, hsl⟩, HD.out, bd⟩
          case measure => simp [intOf]; omega
    · obtain rfl : l.length = k := by omega
      rw [List.drop_length] at hd
      have hd' : Lg = scan l := by rw [← hd]; cases st <;> rfl
      have HD := Lib.hid hd'
      clear hd hd'
      go_wp2_with fail
      go_ret
      rw [HD.out]
      exact ⟨rfl, hbel⟩
end Go.Proofs.YtlfbnfphocpgeaaGreatDoor.Num
