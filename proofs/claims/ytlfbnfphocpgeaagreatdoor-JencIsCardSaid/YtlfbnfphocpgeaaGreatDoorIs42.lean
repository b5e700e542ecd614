/- A part of what is_holds leans on (its texts, put together). Nothing is claimed here. -/
import Derived.Test.YtlfbnfphocpgeaaGreatDoorIs41
namespace Go.Proofs.YtlfbnfphocpgeaaGreatDoor.Jdec
open Go.RowKit Kit Txt
open Utf (nb)
open Tre (Val HoldF HoldP RowT RowC KsP)
set_option maxRecDepth 100000 in
set_option maxHeartbeats 4000000 in
theorem rmany_list {w : World} {l : List UInt8} {q K : Nat} {d : Int} (hl : l.length < 100000) (hq : q < l.length) (hnb : nb l q = 91) (hd0 : 0 ≤ d) (hd1 : d ≤ 1000)
   (hv : ∀ (wx : World) (p : Nat), p ≤ l.length → Calls Tryz.prog 22 #[.string (txt l), .int .i64 p, .int .i64 (d + 1)] wx fun e w' => TellE (HoldF wx.heap.size w') l.length (value K (l.drop p)) e ∧ Below wx.heap.size wx w') :
   Calls Tryz.prog 39 #[.string (txt l), .int .i64 q, .int .i64 d] w fun e w' => TellE (HoldF w.heap.size w') l.length (many (value K) (l.drop q)) e ∧ Below w.heap.size w w' := by
 have hs := txt_size l
 have hix := idx hq
 rw [hnb] at hix
 have hst := many_start (val := value K) (l := l) (q := q) (obj := false) hnb
 have hwq : IntKind.i64.wrap ((q : Int) + 1) = (q : Int) + 1 := by simp only [IntKind.wrap, IntKind.signed, IntKind.bits]; simp; omega
 have hwd : IntKind.i64.wrap (d + 1) = d + 1 := by simp only [IntKind.wrap, IntKind.signed, IntKind.bits]; simp; omega
 have hbl : ∀ (wx : World) (i : Nat), i ≤ l.length → Calls Tryz.prog 23 #[.string (txt l), .int .i64 i] wx fun e w' => e = .returned (.int .i64 (skipAt l i)) ∧ w' = wx := fun wx i hi => rblanks_any (w := wx) hl hi
 have hbl1 : ∀ (wx : World) (i : Nat), i < l.length → Calls Tryz.prog 23 #[.string (txt l), .int .i64 ((i : Int) + 1)] wx fun e w' => e = .returned (.int .i64 (skipAt l (i + 1))) ∧ w' = wx := fun wx i hi => by
   have := hbl wx (i + 1) (by omega)
   rwa [Int.natCast_add] at this
 have hbh : ∀ (wx : World) (j : Nat), Calls Tryz.prog 58 #[.string (txt l), .int .i64 j] wx fun e w' => e = .returned (badV j (hereE l j)) ∧ Below wx.heap.size wx w' := fun wx j => rhere_any (w := wx) (l := l) (q := j)
 simp only [badV] at hbh
 have hvg := value_good K
 obtain ⟨W0, hW0⟩ : ∃ W0, ((w.alloc (.cells #[.int .i64 0, .bool false, .bool false, .string ⟨#[]⟩, .int .i64 0, .string ⟨#[]⟩, .slice none 0 0, .slice none 0 0, .int .i64 0, .int .i64 0, .int .i64 0] 31)).alloc (.cells #[.int .i64 5, .bool false, .bool false, .string ⟨#[]⟩, .int .i64 0, .string ⟨#[]⟩, .slice none 0 0, .slice none 0 0] 29)) = W0 := ⟨_, rfl⟩
 have hB0 := new_of (World.alloc_heap_new w (.cells #[.int .i64 0, .bool false, .bool false, .string ⟨#[]⟩, .int .i64 0, .string ⟨#[]⟩, .slice none 0 0, .slice none 0 0, .int .i64 0, .int .i64 0, .int .i64 0] 31)) (.cells #[.int .i64 5, .bool false, .bool false, .string ⟨#[]⟩, .int .i64 0, .string ⟨#[]⟩, .slice none 0 0, .slice none 0 0] 29)
 have hV0 := World.alloc_heap_new (w.alloc (.cells #[.int .i64 0, .bool false, .bool false, .string ⟨#[]⟩, .int .i64 0, .string ⟨#[]⟩, .slice none 0 0, .slice none 0 0, .int .i64 0, .int .i64 0, .int .i64 0] 31)) (.cells #[.int .i64 5, .bool false, .bool false, .string ⟨#[]⟩, .int .i64 0, .string ⟨#[]⟩, .slice none 0 0, .slice none 0 0] 29)
 rw [World.size_alloc] at hV0
 have bW : Below w.heap.size w ((w.alloc (.cells #[.int .i64 0, .bool false, .bool false, .string ⟨#[]⟩, .int .i64 0, .string ⟨#[]⟩, .slice none 0 0, .slice none 0 0, .int .i64 0, .int .i64 0, .int .i64 0] 31)).alloc (.cells #[.int .i64 5, .bool false, .bool false, .string ⟨#[]⟩, .int .i64 0, .string ⟨#[]⟩, .slice none 0 0, .slice none 0 0] 29)) := ((Below.refl _ w).alloc (Nat.le_refl _) _).alloc (by simp) _
 have hM0 : Mid w.heap.size false (.slice none 0 0) [] (.slice none 0 0) [] [] W0 ∧ Below w.heap.size w W0 := by
   rw [← hW0]
   exact ⟨Mid.first false (by simp) hB0 hV0, bW⟩
 generalize hgg : many (value K) (l.drop q) = gg at *
 have HM0 := Lib.hid hM0
 have HW := Lib.hid hW0
 have HST := Lib.hid hst
 have HBL := Lib.hid hbl
 have HBL1 := Lib.hid hbl1
 have HBH := Lib.hid hbh
 have HV := Lib.hid hv
 have HVG := Lib.hid hvg
 clear hM0 hW0 hst hbl hbl1 hbh hv hvg hgg bW hB0 hV0 hnb
 go_enter Tryz.func39, Tryz.ntmps39
 go_wp2_with fail
 rw [HW.out]
 refine (HBL1.out _ q hq).mono ?_
 rintro e w2 ⟨rfl, rfl⟩
 obtain ⟨i0, hi0⟩ : ∃ i0, skipAt l (q + 1) = i0 := ⟨_, rfl⟩
 have hst := HST.out
 rw [hi0] at hst ⊢
 have hi0l : i0 ≤ l.length := by rw [← hi0]; exact skipAt_le l _
 clear HST HW hi0 hix
 by_cases hcl : nb l i0 = 93
 · have hlt : i0 < l.length := nb_ne hcl (by decide)
   have hlt' : (i0 : Int) < (l.length : Int) := by omega
   have hix := idx hlt
   rw [hcl] at hix
   rw [if_pos (show nb l i0 = (close false).toNat from hcl)] at hst
   have hwi : IntKind.i64.wrap ((i0 : Int) + 1) = (i0 : Int) + 1 := by simp only [IntKind.wrap, IntKind.signed, IntKind.bits]; simp; omega
   have hM := HM0.out.1
   have HF := Lib.hid fun (C : Value → Val → Prop) (p : Int) (hC : C (.agg #[.int .i64 5, .bool false, .bool false, .string ⟨#[]⟩, .int .i64 0, .string ⟨#[]⟩, .slice none 0 0, .slice none 0 0]) (made false [] [])) => TellE.good (C := C) (n := l.length) (a := (i0 : Int) + 1) (p := p) hst (by rw [List.length_drop]; omega) hC
   have hval : w2.heap[w.heap.size + 1]? = some (.cells #[.int .i64 5, .bool false, .bool false, .string ⟨#[]⟩, .int .i64 0, .string ⟨#[]⟩, .slice none 0 0, .slice none 0 0] 29 (0, 0)) := hM.val
   obtain ⟨d0, d1, d2, d3, d4, d5, d6, d7⟩ := Tre.eight hval
   have HH := Lib.hid (holdF_set11 (made_holdF false hM.T hM.C (Nat.le_refl _)) (show w.heap.size < w.heap.size + 2 by omega) (show w.heap.size ≤ w.heap.size + 2 by omega) (.int .i64 5) (.bool false) (.bool false) (.string ⟨#[]⟩) (.int .i64 0) (.string ⟨#[]⟩) (.slice none 0 0) (.slice none 0 0) (.int .i64 ((i0 : Int) + 1)) (.int .i64 0) (.int .i64 0))
   have hgot := hM.got
   have hbel := HM0.out.2
   have hlg := lt_of_heap hgot
   have hlv := lt_of_heap hval
   clear hst HM0 HBL HBL1 HBH HV HVG hM hval hcl
   have h9 := set11 hgot (.int .i64 5) (.bool false) (.bool false) (.string ⟨#[]⟩) (.int .i64 0) (.string ⟨#[]⟩) (.slice none 0 0) (.slice none 0 0) (.int .i64 ((i0 : Int) + 1)) (.int .i64 0) (.int .i64 0)
   have b9 := below11 hbel (Nat.le_refl _) (.int .i64 5) (.bool false) (.bool false) (.string ⟨#[]⟩) (.int .i64 0) (.string ⟨#[]⟩) (.slice none 0 0) (.slice none 0 0) (.int .i64 ((i0 : Int) + 1)) (.int .i64 0) (.int .i64 0)
   obtain ⟨z0, z1, z2, z3, z4, z5, z6, z7, z8, z9, z10⟩ := eleven h9
   obtain ⟨y0, y1, y2, y3, y4, y5, y6, y7, y8, y9, y10⟩ := eleven hgot
   have qf := free_of hgot
   clear h9
   go_wp2_with fail
   refine bodyPost_ret (v := .agg #[.int .i64 5, .bool false, .bool false, .string ⟨#[]⟩, .int .i64 0, .string ⟨#[]⟩, .slice none 0 0, .slice none 0 0, .int .i64 ((i0 : Int) + 1), .int .i64 0, .int .i64 0]) (by simp [results, Tryz.results39, go_sem, z0, z1, z2, z3, z4, z5, z6, z7, z8, z9, z10]) rfl ⟨HF.out _ _ HH.out, b9⟩
 rw [if_neg (show ¬ nb l i0 = (close false).toNat from hcl)] at hst
 have HSTI := Lib.hid hst
 clear hst
 by_cases hlt : i0 < l.length
 · have hlt' : (i0 : Int) < (l.length : Int) := by omega
   have hix := idx hlt
   have hcne : (((nb l i0 : Nat) : Int) == 93) = false := by simp; omega
   generalize nb l i0 = xi at *
   clear hcl
   go_wp2_with fail
   go_loopw [9] (fun z wr => ∃ (i : Nat) (uk : Value) (keys : List (List UInt8)) (uv : Value) (kids : List Val) (cs : List (List Value)), z = .int .i64 i ∧ i ≤ l.length ∧ gg = items (value K) false keys kids (l.drop i) ∧ keys.length ≤ i ∧ kids.length ≤ i ∧ Mid w.heap.size false uk keys uv kids cs wr ∧ Below w.heap.size w wr) (fun z _ => l.length - (intOf z).toNat)
   case atStart => exact ⟨i0, _, [], _, [], [], rfl, hi0l, HSTI.out, Nat.zero_le _, Nat.zero_le _, HM0.out.1, HM0.out.2⟩
   case round =>
     obtain ⟨i, uk, keys, uv, kids, cs, rfl, hi, hm, hkl, hkd, hM, hb⟩ := hrel
     clear HM0 HSTI
     obtain ⟨ak, ck, hak⟩ := Tre.rowT_slice hM.T
     subst hak
     generalize hkn : keys.length = kn at *
     generalize hdn : kids.length = dn at *
     have hval : wr.heap[w.heap.size + 1]? = some (.cells #[.int .i64 5, .bool false, .bool false, .string ⟨#[]⟩, .int .i64 0, .string ⟨#[]⟩, .slice ak kn ck, uv] 29 (0, 0)) := hM.val
     obtain ⟨v0, v1, v2, v3, v4, v5, v6, v7⟩ := Tre.eight hval
     have HMN := Lib.hid hm
     have HKN := Lib.hid hkn
     have HDN := Lib.hid hdn
     have HMM := Lib.hid hM
     have HB := Lib.hid hb
     have hlv := lt_of_heap hval
     clear hm hkn hdn hM hb hval
     have HPT2 := Lib.hid (part_lst (value K) keys (l.drop i))
     go_wp2_with fail
     refine (HV.out wr i hi).mono ?_
     rintro e w6 ⟨⟨k0, b0, b1, dd, x0, tt, a1, n1', m1, a2, n2', m2, aa, pp, kk, rfl, hcase⟩, k6⟩
     have hN6 := World.alloc_heap_new w6 (.cells #[.int .i64 k0, .bool b0, .bool b1, .string dd, .int .i64 x0, .string tt, .slice a1 n1' m1, .slice a2 n2' m2, .int .i64 aa, .int .i64 pp, .int .i64 kk] 31)
     obtain ⟨W6, hW6⟩ : ∃ W6, w6.alloc (.cells #[.int .i64 k0, .bool b0, .bool b1, .string dd, .int .i64 x0, .string tt, .slice a1 n1' m1, .slice a2 n2' m2, .int .i64 aa, .int .i64 pp, .int .i64 kk] 31) = W6 := ⟨_, rfl⟩
     have k66 : Below w6.heap.size w6 W6 := by rw [← hW6]; exact (Below.refl _ w6).alloc (Nat.le_refl _) _
     rw [hW6] at hN6
     have hM6 := (HMM.out.below k6).below k66
     have b6 := (HB.out.trans (k6.mono HB.out.size)).trans (k66.mono (Nat.le_trans HB.out.size k6.size))
     have hneM : ¬ w6.heap.size = w.heap.size + 1 := by have := (HMM.out.below k6).base; omega
     have hltM : w.heap.size + 1 < w6.heap.size := by have := (HMM.out.below k6).base; omega
     have HN6 := Lib.hid hN6
     have HM6 := Lib.hid hM6
     have HB6 := Lib.hid b6
     have HW6 := Lib.hid hW6
     have HC6 := Lib.hid hcase
     have HK6 := Lib.hid k6
     have HK66 := Lib.hid k66
     clear hW6 hM6 b6 k6 k66 hN6 hcase v0 v1 v2 v3 v4 v5 v6 v7
     go_upto_region 16 with fail
     rw [HW6.out]
     clear HW6
     obtain ⟨u0, u1, u2, u3, u4, u5, u6, u7, u8, u9, u10⟩ := eleven HN6.out
     have hlM := lt_of_heap HN6.out
     rcases HC6.out with ⟨x, r2, hve, ha, rfl, hhold⟩ | ⟨⟨r2, j, hve⟩, hkne⟩
     rotate_left
     · have hk1 : (kk != 0) = true := by simpa using hkne
       have hno : gg = .no r2 j := by
         rw [HMN.out]
         refine items_no (value K) false ?_
         rw [HPT2.out, hve]
       have HF := Lib.hid fun (C : Value → Val → Prop) => TellE.bad2 (C := C) (n := l.length) hno hkne k0 b0 b1 dd x0 tt a1 n1' m1 a2 n2' m2 aa pp
       have hgot := HM6.out.got
       have hbel := HB6.out
       clear hno hve hkne
       have h9 := set11 hgot (.int .i64 k0) (.bool b0) (.bool b1) (.string dd) (.int .i64 x0) (.string tt) (.slice a1 n1' m1) (.slice a2 n2' m2) (.int .i64 aa) (.int .i64 pp) (.int .i64 kk)
       have b9 := below11 hbel (Nat.le_refl _) (.int .i64 k0) (.bool b0) (.bool b1) (.string dd) (.int .i64 x0) (.string tt) (.slice a1 n1' m1) (.slice a2 n2' m2) (.int .i64 aa) (.int .i64 pp) (.int .i64 kk)
       obtain ⟨z0, z1, z2, z3, z4, z5, z6, z7, z8, z9, z10⟩ := eleven h9
       obtain ⟨y0, y1, y2, y3, y4, y5, y6, y7, y8, y9, y10⟩ := eleven hgot
       have qf := free_of hgot
       clear h9
       go_wp2_with fail
       refine bodyPost_ret (v := .agg #[.int .i64 k0, .bool b0, .bool b1, .string dd, .int .i64 x0, .string tt, .slice a1 n1' m1, .slice a2 n2' m2, .int .i64 aa, .int .i64 pp, .int .i64 kk]) (by simp [results, Tryz.results39, go_sem, z0, z1, z2, z3, z4, z5, z6, z7, z8, z9, z10]) rfl ⟨HF.out _, b9⟩
     have hpart : part (value K) false keys (l.drop i) = .ok (keys, x) r2 := by rw [HPT2.out, hve]
     have hio := items_ok (kids := kids) HVG.out hpart
     have hgrow := items_grow HVG.out hpart
     have hsf := suf_items HVG.out hpart (List.drop_suffix _ _)
     have hrl2 := hsf.length_le
     have hdp2 : l.drop (l.length - r2.length) = r2 := drop_suf hsf
     obtain ⟨p2, hp2⟩ : ∃ p2, l.length - r2.length = p2 := ⟨_, rfl⟩
     rw [hp2] at hdp2 ha hgrow
     subst ha
     have hp2l : p2 ≤ l.length := by omega
     rw [← hdp2, ← skipAt_drop, after_item] at hio
     have hjl := skipAt_le l p2
     have hjg := skipAt_ge (l := l) hp2l
     have HBLP := Lib.hid (fun wx => HBL.out wx p2 hp2l)
     generalize skipAt l p2 = j at *
     have HAFT := Lib.hid (HMN.out.trans hio)
     have HHOLD := Lib.hid hhold
     have hdnb : dn < 1000000 := by omega
     have hval6 : W6.heap[w.heap.size + 1]? = some (.cells #[.int .i64 5, .bool false, .bool false, .string ⟨#[]⟩, .int .i64 0, .string ⟨#[]⟩, .slice ak kn ck, uv] 29 (0, 0)) := HM6.out.val
     obtain ⟨y0, y1, y2, y3, y4, y5, y6, y7⟩ := Tre.eight hval6
     have hlV6 := lt_of_heap hval6
     have HV6 := Lib.hid hval6
     clear hve hpart hio hsf hrl2 hdp2 hp2 hhold hval6 HMN HPT2 HC6
     go_wp2_with (at_builtin; go_loud (refine Tre.wp_push (by rfl) _ _ (by rfl) (w.heap.size + 2) wr.heap.size (v := x) (c := [.int .i64 k0, .bool b0, .bool b1, .string dd, .int .i64 x0, .string tt, .slice a1 n1' m1, .slice a2 n2' m2]) HDN.out (by rfl) (by rfl) (new8R W6 _ rfl) (HM6.out.C.below ((Below.refl _ W6).alloc (Nat.le_refl _) _)) (HoldP.keep (by simp) (fun g _ hlt => Below.heap_alloc _ _ _ hlt) _ (holdF_cells (HHOLD.out.below HK66.out))) HMM.out.base (fun g e => (HMM.out.C.own_lt g e).2) (fun g e => (Tre.rowT_lt HMM.out.T g e).2) hdnb (by have := HM6.out.base; simp; omega) ?_))
     intro g2 cap2 w7 hC7 hg7
     have bT7 : Below W6.heap.size W6 (W6.alloc (.cells #[.int .i64 k0, .bool b0, .bool b1, .string dd, .int .i64 x0, .string tt, .slice a1 n1' m1, .slice a2 n2' m2] 29)) := (Below.refl _ W6).alloc (Nat.le_refl _) _
     have hM7 := (HM6.out.below bT7).kids hC7 hg7
     have hlo7 : ∀ x, uv.ownBlock = some x → w.heap.size + 2 ≤ x ∧ x < wr.heap.size := HMM.out.C.own_lt
     have hsz : wr.heap.size ≤ w6.heap.size := HK6.out.size
     have hb7 : Below w.heap.size w (w7.setCell ⟨w.heap.size + 1, 7, none⟩ (.slice (some ⟨g2, 0, none⟩) (dn + 1) cap2)) := ((HB6.out.trans (bT7.mono HB6.out.size)).grown hg7 (by have := HB6.out.size; simp; omega) (fun k e => by have := (hlo7 k e).1; omega)).setCell (p := ⟨w.heap.size + 1, 7, none⟩) (by dsimp only; omega) _
     have hv7 := (hg7.block (w.heap.size + 1) (by simp; omega) (fun e => by have := (hlo7 _ e.symm).1; omega)).trans ((bT7.block _ hlV6).trans HV6.out)
     have hN7 := (hg7.block w6.heap.size (by simp; omega) (fun e => by have := (hlo7 _ e.symm).2; omega)).trans ((bT7.block _ hlM).trans HN6.out)
     have q7 := cell_of hv7 7
     have qf7 := free_of hv7 7
     have hN8 := (Tre.setc_other (i := 7) (.slice (some ⟨g2, 0, none⟩) (dn + 1) cap2) hneM).trans hN7
     obtain ⟨W7, hW7⟩ : ∃ W7, w7.setCell ⟨w.heap.size + 1, 7, none⟩ (.slice (some ⟨g2, 0, none⟩) (dn + 1) cap2) = W7 := ⟨_, rfl⟩
     rw [hW7] at hM7 hb7 hN8
     have HW7 := Lib.hid hW7
     have HM7 := Lib.hid hM7
     have HB7 := Lib.hid hb7
     have HN8 := Lib.hid hN8
     clear hW7 hM7 hb7 hN8 hN7 hv7 hlo7 hC7 hg7 bT7 HV6 HN6 HM6 HB6 HMM HB u0 u1 u2 u3 u4 u5 u6 u7 u8 u9 u10 y0 y1 y2 y3 y4 y5 y6 y7 hlV6 hlM HK6 HK66 HHOLD
     go_upto_region 19 with fail
     rw [HW7.out]
     clear HW7 q7 qf7
     obtain ⟨u0, u1, u2, u3, u4, u5, u6, u7, u8, u9, u10⟩ := eleven HN8.out
     go_wp2_with fail
     refine (HBLP.out _).mono ?_
     rintro e w8 ⟨rfl, rfl⟩
     clear u0 u1 u2 u3 u4 u5 u6 u7 u8 u9 u10 HBLP HN8
     by_cases hjc : nb l j = 93
     · have hjlt : j < l.length := nb_ne hjc (by decide)
       have hjlt' : (j : Int) < (l.length : Int) := by omega
       have hixj := idx hjlt
       rw [hjc] at hixj
       have haft := HAFT.out
       rw [if_pos (show nb l j = (close false).toNat from hjc)] at haft
       have hwj : IntKind.i64.wrap ((j : Int) + 1) = (j : Int) + 1 := by simp only [IntKind.wrap, IntKind.signed, IntKind.bits]; simp; omega
       have HF := Lib.hid fun (C : Value → Val → Prop) (p : Int) (hC : C (.agg #[.int .i64 5, .bool false, .bool false, .string ⟨#[]⟩, .int .i64 0, .string ⟨#[]⟩, .slice ak kn ck, .slice (some ⟨g2, 0, none⟩) (dn + 1) cap2]) (made false keys (kids ++ [x]))) => TellE.good (C := C) (n := l.length) (a := (j : Int) + 1) (p := p) haft (by rw [List.length_drop]; omega) hC
       have hval : w8.heap[w.heap.size + 1]? = some (.cells #[.int .i64 5, .bool false, .bool false, .string ⟨#[]⟩, .int .i64 0, .string ⟨#[]⟩, .slice ak kn ck, .slice (some ⟨g2, 0, none⟩) (dn + 1) cap2] 29 (0, 0)) := HM7.out.val
       obtain ⟨d0, d1, d2, d3, d4, d5, d6, d7⟩ := Tre.eight hval
       have HH := Lib.hid (holdF_set11 (made_holdF false HM7.out.T HM7.out.C (Nat.le_refl _)) (show w.heap.size < w.heap.size + 2 by omega) (show w.heap.size ≤ w.heap.size + 2 by omega) (.int .i64 5) (.bool false) (.bool false) (.string ⟨#[]⟩) (.int .i64 0) (.string ⟨#[]⟩) (.slice ak kn ck) (.slice (some ⟨g2, 0, none⟩) (dn + 1) cap2) (.int .i64 ((j : Int) + 1)) (.int .i64 0) (.int .i64 0))
       have hgot := HM7.out.got
       have hbel := HB7.out
       have hlg := lt_of_heap hgot
       have hlv := lt_of_heap hval
       clear haft HAFT HM7 HB7 hval hjc HBL HBL1 HBH HV HVG
       have h9 := set11 hgot (.int .i64 5) (.bool false) (.bool false) (.string ⟨#[]⟩) (.int .i64 0) (.string ⟨#[]⟩) (.slice ak kn ck) (.slice (some ⟨g2, 0, none⟩) (dn + 1) cap2) (.int .i64 ((j : Int) + 1)) (.int .i64 0) (.int .i64 0)
       have b9 := below11 hbel (Nat.le_refl _) (.int .i64 5) (.bool false) (.bool false) (.string ⟨#[]⟩) (.int .i64 0) (.string ⟨#[]⟩) (.slice ak kn ck) (.slice (some ⟨g2, 0, none⟩) (dn + 1) cap2) (.int .i64 ((j : Int) + 1)) (.int .i64 0) (.int .i64 0)
       obtain ⟨z0, z1, z2, z3, z4, z5, z6, z7, z8, z9, z10⟩ := eleven h9
       obtain ⟨y0, y1, y2, y3, y4, y5, y6, y7, y8, y9, y10⟩ := eleven hgot
       have qf := free_of hgot
       clear h9
       go_wp2_with fail
       refine bodyPost_ret (v := .agg #[.int .i64 5, .bool false, .bool false, .string ⟨#[]⟩, .int .i64 0, .string ⟨#[]⟩, .slice ak kn ck, .slice (some ⟨g2, 0, none⟩) (dn + 1) cap2, .int .i64 ((j : Int) + 1), .int .i64 0, .int .i64 0]) (by simp [results, Tryz.results39, go_sem, z0, z1, z2, z3, z4, z5, z6, z7, z8, z9, z10]) rfl ⟨HF.out _ _ HH.out, b9⟩
     have hneg : ¬ nb l j = (close false).toNat := hjc
     by_cases hjlt : j < l.length
     · have hjlt' : (j : Int) < (l.length : Int) := by omega
       have hjd : decide (l.length ≤ j) = false := decide_eq_false (by omega)
       have hjd' : ¬ (l.length : Int) ≤ (j : Int) := by omega
       have hixj := idx hjlt
       have hcne : (((nb l j : Nat) : Int) == 93) = false := by simp; omega
       by_cases h44 : nb l j = 44
       · have haft := HAFT.out
         rw [if_neg hneg, if_neg (by simpa using h44)] at haft
         have hwj : IntKind.i64.wrap ((j : Int) + 1) = (j : Int) + 1 := by simp only [IntKind.wrap, IntKind.signed, IntKind.bits]; simp; omega
         have hcm : (((nb l j : Nat) : Int) != 44) = false := by simp [h44]
         have HAF := Lib.hid haft
         have hnl := skipAt_le l (j + 1)
         have hng := skipAt_ge (l := l) (show j + 1 ≤ l.length by omega)
         have HBJ := Lib.hid (fun wx => HBL1.out wx j hjlt)
         rw [h44] at hixj
         clear haft HAFT h44 hneg hcne hcm hjc
         go_wp2_with fail
         refine (HBJ.out _).mono ?_
         rintro e w9 ⟨rfl, rfl⟩
         generalize skipAt l (j + 1) = i2 at *
         go_wp2_with fail
         go_roundw
         case rel => exact ⟨i2, _, _, _, _, _, rfl, hnl, HAF.out, by rw [HKN.out]; omega, by rw [List.length_append, HDN.out]; simp; omega, HM7.out, HB7.out⟩
         case measure => simp [intOf]; omega
       · have hcm : (((nb l j : Nat) : Int) != 44) = true := by simp; omega
         generalize hnj : nb l j = xj at *
         have HNG := Lib.hid hneg
         have H44 := Lib.hid h44
         clear hneg h44 hjc hnj
         obtain ⟨r3, j3, hno⟩ := here_no (α := Val) (l.drop j)
         have hno2 : gg = .no r3 j3 := by rw [HAFT.out, if_neg HNG.out, if_pos H44.out]; exact hno
         have hE := here_ne l j
         have hbh := fun wx => HBH.out wx j
         generalize hereE l j = ee at *
         have HF := Lib.hid fun (C : Value → Val → Prop) => TellE.bad2 (C := C) (n := l.length) hno2 hE 0 false false ⟨#[]⟩ 0 ⟨#[]⟩ none 0 0 none 0 0 0 j
         have HBHJ := Lib.hid hbh
         clear hno hno2 hE hbh
         go_wp2_with fail
         refine (HBHJ.out _).mono ?_
         rintro e w9 ⟨rfl, k9⟩
         have hgot := (k9.block _ (lt_of_heap HM7.out.got)).trans HM7.out.got
         have hbel := HB7.out.trans (k9.mono HB7.out.size)
         clear k9
         have h9 := set11 hgot (.int .i64 0) (.bool false) (.bool false) (.string ⟨#[]⟩) (.int .i64 0) (.string ⟨#[]⟩) (.slice none 0 0) (.slice none 0 0) (.int .i64 0) (.int .i64 j) (.int .i64 ee)
         have b9 := below11 hbel (Nat.le_refl _) (.int .i64 0) (.bool false) (.bool false) (.string ⟨#[]⟩) (.int .i64 0) (.string ⟨#[]⟩) (.slice none 0 0) (.slice none 0 0) (.int .i64 0) (.int .i64 j) (.int .i64 ee)
         obtain ⟨z0, z1, z2, z3, z4, z5, z6, z7, z8, z9, z10⟩ := eleven h9
         obtain ⟨y0, y1, y2, y3, y4, y5, y6, y7, y8, y9, y10⟩ := eleven hgot
         have qf := free_of hgot
         clear h9
         go_wp2_with fail
         refine bodyPost_ret (v := .agg #[.int .i64 0, .bool false, .bool false, .string ⟨#[]⟩, .int .i64 0, .string ⟨#[]⟩, .slice none 0 0, .slice none 0 0, .int .i64 0, .int .i64 j, .int .i64 ee]) (by simp [results, Tryz.results39, go_sem, z0, z1, z2, z3, z4, z5, z6, z7, z8, z9, z10]) rfl ⟨HF.out _, b9⟩
     · have hjd : decide (j < l.length) = false := decide_eq_false hjlt
       have hjd2 : decide (l.length ≤ j) = true := decide_eq_true (by omega)
       have hjd3 : (l.length : Int) ≤ (j : Int) := by omega
       have h44 : nb l j ≠ 44 := by rw [nb_past (by omega)]; decide
       have HNG := Lib.hid hneg
       have H44 := Lib.hid h44
       clear hneg h44 hjc
       obtain ⟨r3, j3, hno⟩ := here_no (α := Val) (l.drop j)
       have hno2 : gg = .no r3 j3 := by rw [HAFT.out, if_neg HNG.out, if_pos H44.out]; exact hno
       have hE := here_ne l j
       have hbh := fun wx => HBH.out wx j
       generalize hereE l j = ee at *
       have HF := Lib.hid fun (C : Value → Val → Prop) => TellE.bad2 (C := C) (n := l.length) hno2 hE 0 false false ⟨#[]⟩ 0 ⟨#[]⟩ none 0 0 none 0 0 0 j
       have HBHJ := Lib.hid hbh
       clear hno hno2 hE hbh
       go_wp2_with fail
       refine (HBHJ.out _).mono ?_
       rintro e w9 ⟨rfl, k9⟩
       have hgot := (k9.block _ (lt_of_heap HM7.out.got)).trans HM7.out.got
       have hbel := HB7.out.trans (k9.mono HB7.out.size)
       clear k9
       have h9 := set11 hgot (.int .i64 0) (.bool false) (.bool false) (.string ⟨#[]⟩) (.int .i64 0) (.string ⟨#[]⟩) (.slice none 0 0) (.slice none 0 0) (.int .i64 0) (.int .i64 j) (.int .i64 ee)
       have b9 := below11 hbel (Nat.le_refl _) (.int .i64 0) (.bool false) (.bool false) (.string ⟨#[]⟩) (.int .i64 0) (.string ⟨#[]⟩) (.slice none 0 0) (.slice none 0 0) (.int .i64 0) (.int .i64 j) (.int .i64 ee)
       obtain ⟨z0, z1, z2, z3, z4, z5, z6, z7, z8, z9, z10⟩ := eleven h9
       obtain ⟨y0, y1, y2, y3, y4, y5, y6, y7, y8, y9, y10⟩ := eleven hgot
       have qf := free_of hgot
       clear h9
       go_wp2_with fail
       refine bodyPost_ret (v := .agg #[.int .i64 0, .bool false, .bool false, .string ⟨#[]⟩, .int .i64 0, .string ⟨#[]⟩, .slice none 0 0, .slice none 0 0, .int .i64 0, .int .i64 j, .int .i64 ee]) (by simp [results, Tryz.results39, go_sem, z0, z1, z2, z3, z4, z5, z6, z7, z8, z9, z10]) rfl ⟨HF.out _, b9⟩
 · have hg1 : decide (i0 < l.length) = false := decide_eq_false hlt
   clear hcl
   go_wp2_with fail
   go_loopw [9] (fun z wr => ∃ (i : Nat) (uk : Value) (keys : List (List UInt8)) (uv : Value) (kids : List Val) (cs : List (List Value)), z = .int .i64 i ∧ i ≤ l.length ∧ gg = items (value K) false keys kids (l.drop i) ∧ keys.length ≤ i ∧ kids.length ≤ i ∧ Mid w.heap.size false uk keys uv kids cs wr ∧ Below w.heap.size w wr) (fun z _ => l.length - (intOf z).toNat)
   case atStart => exact ⟨i0, _, [], _, [], [], rfl, hi0l, HSTI.out, Nat.zero_le _, Nat.zero_le _, HM0.out.1, HM0.out.2⟩
   case round =>
     obtain ⟨i, uk, keys, uv, kids, cs, rfl, hi, hm, hkl, hkd, hM, hb⟩ := hrel
     clear HM0 HSTI
     obtain ⟨ak, ck, hak⟩ := Tre.rowT_slice hM.T
     subst hak
     generalize hkn : keys.length = kn at *
     generalize hdn : kids.length = dn at *
     have hval : wr.heap[w.heap.size + 1]? = some (.cells #[.int .i64 5, .bool false, .bool false, .string ⟨#[]⟩, .int .i64 0, .string ⟨#[]⟩, .slice ak kn ck, uv] 29 (0, 0)) := hM.val
     obtain ⟨v0, v1, v2, v3, v4, v5, v6, v7⟩ := Tre.eight hval
     have HMN := Lib.hid hm
     have HKN := Lib.hid hkn
     have HDN := Lib.hid hdn
     have HMM := Lib.hid hM
     have HB := Lib.hid hb
     have hlv := lt_of_heap hval
     clear hm hkn hdn hM hb hval
     have HPT2 := Lib.hid (part_lst (value K) keys (l.drop i))
     go_wp2_with fail
     refine (HV.out wr i hi).mono ?_
     rintro e w6 ⟨⟨k0, b0, b1, dd, x0, tt, a1, n1', m1, a2, n2', m2, aa, pp, kk, rfl, hcase⟩, k6⟩
     have hN6 := World.alloc_heap_new w6 (.cells #[.int .i64 k0, .bool b0, .bool b1, .string dd, .int .i64 x0, .string tt, .slice a1 n1' m1, .slice a2 n2' m2, .int .i64 aa, .int .i64 pp, .int .i64 kk] 31)
     obtain ⟨W6, hW6⟩ : ∃ W6, w6.alloc (.cells #[.int .i64 k0, .bool b0, .bool b1, .string dd, .int .i64 x0, .string tt, .slice a1 n1' m1, .slice a2 n2' m2, .int .i64 aa, .int .i64 pp, .int .i64 kk] 31) = W6 := ⟨_, rfl⟩
     have k66 : Below w6.heap.size w6 W6 := by rw [← hW6]; exact (Below.refl _ w6).alloc (Nat.le_refl _) _
     rw [hW6] at hN6
     have hM6 := (HMM.out.below k6).below k66
     have b6 := (HB.out.trans (k6.mono HB.out.size)).trans (k66.mono (Nat.le_trans HB.out.size k6.size))
     have hneM : ¬ w6.heap.size = w.heap.size + 1 := by have := (HMM.out.below k6).base; omega
     have hltM : w.heap.size + 1 < w6.heap.size := by have := (HMM.out.below k6).base; omega
     have HN6 := Lib.hid hN6
     have HM6 := Lib.hid hM6
     have HB6 := Lib.hid b6
     have HW6 := Lib.hid hW6
     have HC6 := Lib.hid hcase
     have HK6 := Lib.hid k6
     have HK66 := Lib.hid k66
     clear hW6 hM6 b6 k6 k66 hN6 hcase v0 v1 v2 v3 v4 v5 v6 v7
     go_upto_region 16 with fail
     rw [HW6.out]
     clear HW6
     obtain ⟨u0, u1, u2, u3, u4, u5, u6, u7, u8, u9, u10⟩ := eleven HN6.out
     have hlM := lt_of_heap HN6.out
     rcases HC6.out with ⟨x, r2, hve, ha, rfl, hhold⟩ | ⟨⟨r2, j, hve⟩, hkne⟩
     rotate_left
     · have hk1 : (kk != 0) = true := by simpa using hkne
       have hno : gg = .no r2 j := by
         rw [HMN.out]
         refine items_no (value K) false ?_
         rw [HPT2.out, hve]
       have HF := Lib.hid fun (C : Value → Val → Prop) => TellE.bad2 (C := C) (n := l.length) hno hkne k0 b0 b1 dd x0 tt a1 n1' m1 a2 n2' m2 aa pp
       have hgot := HM6.out.got
       have hbel := HB6.out
       clear hno hve hkne
       have h9 := set11 hgot (.int .i64 k0) (.bool b0) (.bool b1) (.string dd) (.int .i64 x0) (.string tt) (.slice a1 n1' m1) (.slice a2 n2' m2) (.int .i64 aa) (.int .i64 pp) (.int .i64 kk)
       have b9 := below11 hbel (Nat.le_refl _) (.int .i64 k0) (.bool b0) (.bool b1) (.string dd) (.int .i64 x0) (.string tt) (.slice a1 n1' m1) (.slice a2 n2' m2) (.int .i64 aa) (.int .i64 pp) (.int .i64 kk)
       obtain ⟨z0, z1, z2, z3, z4, z5, z6, z7, z8, z9, z10⟩ := eleven h9
       obtain ⟨y0, y1, y2, y3, y4, y5, y6, y7, y8, y9, y10⟩ := eleven hgot
       have qf := free_of hgot
       clear h9
       go_wp2_with fail
       refine bodyPost_ret (v := .agg #[.int .i64 k0, .bool b0, .bool b1, .string dd, .int .i64 x0, .string tt, .slice a1 n1' m1, .slice a2 n2' m2, .int .i64 aa, .int .i64 pp, .int .i64 kk]) (by simp [results, Tryz.results39, go_sem, z0, z1, z2, z3, z4, z5, z6, z7, z8, z9, z10]) rfl ⟨HF.out _, b9⟩
     have hpart : part (value K) false keys (l.drop i) = .ok (keys, x) r2 := by rw [HPT2.out, hve]
     have hio := items_ok (kids := kids) HVG.out hpart
     have hgrow := items_grow HVG.out hpart
     have hsf := suf_items HVG.out hpart (List.drop_suffix _ _)
     have hrl2 := hsf.length_le
     have hdp2 : l.drop (l.length - r2.length) = r2 := drop_suf hsf
     obtain ⟨p2, hp2⟩ : ∃ p2, l.length - r2.length = p2 := ⟨_, rfl⟩
     rw [hp2] at hdp2 ha hgrow
     subst ha
     have hp2l : p2 ≤ l.length := by omega
     rw [← hdp2, ← skipAt_drop, after_item] at hio
     have hjl := skipAt_le l p2
     have hjg := skipAt_ge (l := l) hp2l
     have HBLP := Lib.hid (fun wx => HBL.out wx p2 hp2l)
     generalize skipAt l p2 = j at *
     have HAFT := Lib.hid (HMN.out.trans hio)
     have HHOLD := Lib.hid hhold
     have hdnb : dn < 1000000 := by omega
     have hval6 : W6.heap[w.heap.size + 1]? = some (.cells #[.int .i64 5, .bool false, .bool false, .string ⟨#[]⟩, .int .i64 0, .string ⟨#[]⟩, .slice ak kn ck, uv] 29 (0, 0)) := HM6.out.val
     obtain ⟨y0, y1, y2, y3, y4, y5, y6, y7⟩ := Tre.eight hval6
     have hlV6 := lt_of_heap hval6
     have HV6 := Lib.hid hval6
     clear hve hpart hio hsf hrl2 hdp2 hp2 hhold hval6 HMN HPT2 HC6
     go_wp2_with (at_builtin; go_loud (refine Tre.wp_push (by rfl) _ _ (by rfl) (w.heap.size + 2) wr.heap.size (v := x) (c := [.int .i64 k0, .bool b0, .bool b1, .string dd, .int .i64 x0, .string tt, .slice a1 n1' m1, .slice a2 n2' m2]) HDN.out (by rfl) (by rfl) (new8R W6 _ rfl) (HM6.out.C.below ((Below.refl _ W6).alloc (Nat.le_refl _) _)) (HoldP.keep (by simp) (fun g _ hlt => Below.heap_alloc _ _ _ hlt) _ (holdF_cells (HHOLD.out.below HK66.out))) HMM.out.base (fun g e => (HMM.out.C.own_lt g e).2) (fun g e => (Tre.rowT_lt HMM.out.T g e).2) hdnb (by have := HM6.out.base; simp; omega) ?_))
     intro g2 cap2 w7 hC7 hg7
     have bT7 : Below W6.heap.size W6 (W6.alloc (.cells #[.int .i64 k0, .bool b0, .bool b1, .string dd, .int .i64 x0, .string tt, .slice a1 n1' m1, .slice a2 n2' m2] 29)) := (Below.refl _ W6).alloc (Nat.le_refl _) _
     have hM7 := (HM6.out.below bT7).kids hC7 hg7
     have hlo7 : ∀ x, uv.ownBlock = some x → w.heap.size + 2 ≤ x ∧ x < wr.heap.size := HMM.out.C.own_lt
     have hsz : wr.heap.size ≤ w6.heap.size := HK6.out.size
     have hb7 : Below w.heap.size w (w7.setCell ⟨w.heap.size + 1, 7, none⟩ (.slice (some ⟨g2, 0, none⟩) (dn + 1) cap2)) := ((HB6.out.trans (bT7.mono HB6.out.size)).grown hg7 (by have := HB6.out.size; simp; omega) (fun k e => by have := (hlo7 k e).1; omega)).setCell (p := ⟨w.heap.size + 1, 7, none⟩) (by dsimp only; omega) _
     have hv7 := (hg7.block (w.heap.size + 1) (by simp; omega) (fun e => by have := (hlo7 _ e.symm).1; omega)).trans ((bT7.block _ hlV6).trans HV6.out)
     have hN7 := (hg7.block w6.heap.size (by simp; omega) (fun e => by have := (hlo7 _ e.symm).2; omega)).trans ((bT7.block _ hlM).trans HN6.out)
     have q7 := cell_of hv7 7
     have qf7 := free_of hv7 7
     have hN8 := (Tre.setc_other (i := 7) (.slice (some ⟨g2, 0, none⟩) (dn + 1) cap2) hneM).trans hN7
     obtain ⟨W7, hW7⟩ : ∃ W7, w7.setCell ⟨w.heap.size + 1, 7, none⟩ (.slice (some ⟨g2, 0, none⟩) (dn + 1) cap2) = W7 := ⟨_, rfl⟩
     rw [hW7] at hM7 hb7 hN8
     have HW7 := Lib.hid hW7
     have HM7 := Lib.hid hM7
     have HB7 := Lib.hid hb7
     have HN8 := Lib.hid hN8
     clear hW7 hM7 hb7 hN8 hN7 hv7 hlo7 hC7 hg7 bT7 HV6 HN6 HM6 HB6 HMM HB u0 u1 u2 u3 u4 u5 u6 u7 u8 u9 u10 y0 y1 y2 y3 y4 y5 y6 y7 hlV6 hlM HK6 HK66 HHOLD
     go_upto_region 19 with fail
     rw [HW7.out]
     clear HW7 q7 qf7
     obtain ⟨u0, u1, u2, u3, u4, u5, u6, u7, u8, u9, u10⟩ := eleven HN8.out
     go_wp2_with fail
     refine (HBLP.out _).mono ?_
     rintro e w8 ⟨rfl, rfl⟩
     clear u0 u1 u2 u3 u4 u5 u6 u7 u8 u9 u10 HBLP HN8
     by_cases hjc : nb l j = 93
     · have hjlt : j < l.length := nb_ne hjc (by decide)
       have hjlt' : (j : Int) < (l.length : Int) := by omega
       have hixj := idx hjlt
       rw [hjc] at hixj
       have haft := HAFT.out
       rw [if_pos (show nb l j = (close false).toNat from hjc)] at haft
       have hwj : IntKind.i64.wrap ((j : Int) + 1) = (j : Int) + 1 := by simp only [IntKind.wrap, IntKind.signed, IntKind.bits]; simp; omega
       have HF := Lib.hid fun (C : Value → Val → Prop) (p : Int) (hC : C (.agg #[.int .i64 5, .bool false, .bool false, .string ⟨#[]⟩, .int .i64 0, .string ⟨#[]⟩, .slice ak kn ck, .slice (some ⟨g2, 0, none⟩) (dn + 1) cap2]) (made false keys (kids ++ [x]))) => TellE.good (C := C) (n := l.length) (a := (j : Int) + 1) (p := p) haft (by rw [List.length_drop]; omega) hC
       have hval : w8.heap[w.heap.size + 1]? = some (.cells #[.int .i64 5, .bool false, .bool false, .string ⟨#[]⟩, .int .i64 0, .string ⟨#[]⟩, .slice ak kn ck, .slice (some ⟨g2, 0, none⟩) (dn + 1) cap2] 29 (0, 0)) := HM7.out.val
       obtain ⟨d0, d1, d2, d3, d4, d5, d6, d7⟩ := Tre.eight hval
       have HH := Lib.hid (holdF_set11 (made_holdF false HM7.out.T HM7.out.C (Nat.le_refl _)) (show w.heap.size < w.heap.size + 2 by omega) (show w.heap.size ≤ w.heap.size + 2 by omega) (.int .i64 5) (.bool false) (.bool false) (.string ⟨#[]⟩) (.int .i64 0) (.string ⟨#[]⟩) (.slice ak kn ck) (.slice (some ⟨g2, 0, none⟩) (dn + 1) cap2) (.int .i64 ((j : Int) + 1)) (.int .i64 0) (.int .i64 0))
       have hgot := HM7.out.got
       have hbel := HB7.out
       have hlg := lt_of_heap hgot
       have hlv := lt_of_heap hval
       clear haft HAFT HM7 HB7 hval hjc HBL HBL1 HBH HV HVG
       have h9 := set11 hgot (.int .i64 5) (.bool false) (.bool false) (.string ⟨#[]⟩) (.int .i64 0) (.string ⟨#[]⟩) (.slice ak kn ck) (.slice (some ⟨g2, 0, none⟩) (dn + 1) cap2) (.int .i64 ((j : Int) + 1)) (.int .i64 0) (.int .i64 0)
       have b9 := below11 hbel (Nat.le_refl _) (.int .i64 5) (.bool false) (.bool false) (.string ⟨#[]⟩) (.int .i64 0) (.string ⟨#[]⟩) (.slice ak kn ck) (.slice (some ⟨g2, 0, none⟩) (dn + 1) cap2) (.int .i64 ((j : Int) + 1)) (.int .i64 0) (.int .i64 0)
       obtain ⟨z0, z1, z2, z3, z4, z5, z6, z7, z8, z9, z10⟩ := eleven h9
       obtain ⟨y0, y1, y2, y3, y4, y5, y6, y7, y8, y9, y10⟩ := eleven hgot
       have qf := free_of hgot
       clear h9
       go_wp2_with fail
       refine bodyPost_ret (v := .agg #[.int .i64 5, .bool false, .bool false, .string ⟨#[]⟩, .int .i64 0, .string ⟨#[]⟩, .slice ak kn ck, .slice (some ⟨g2, 0, none⟩) (dn + 1) cap2, .int .i64 ((j : Int) + 1), .int .i64 0, .int .i64 0]) (by simp [results, Tryz.results39, go_sem, z0, z1, z2, z3, z4, z5, z6, z7, z8, z9, z10]) rfl ⟨HF.out _ _ HH.out, b9⟩
     have hneg : ¬ nb l j = (close false).toNat := hjc
     by_cases hjlt : j < l.length
     · have hjlt' : (j : Int) < (l.length : Int) := by omega
       have hjd : decide (l.length ≤ j) = false := decide_eq_false (by omega)
       have hjd' : ¬ (l.length : Int) ≤ (j : Int) := by omega
       have hixj := idx hjlt
       have hcne : (((nb l j : Nat) : Int) == 93) = false := by simp; omega
       by_cases h44 : nb l j = 44
       · have haft := HAFT.out
         rw [if_neg hneg, if_neg (by simpa using h44)] at haft
         have hwj : IntKind.i64.wrap ((j : Int) + 1) = (j : Int) + 1 := by simp only [IntKind.wrap, IntKind.signed, IntKind.bits]; simp; omega
         have hcm : (((nb l j : Nat) : Int) != 44) = false := by simp [h44]
         have HAF := Lib.hid haft
         have hnl := skipAt_le l (j + 1)
         have hng := skipAt_ge (l := l) (show j + 1 ≤ l.length by omega)
         have HBJ := Lib.hid (fun wx => HBL1.out wx j hjlt)
         rw [h44] at hixj
         clear haft HAFT h44 hneg hcne hcm hjc
         go_wp2_with fail
         refine (HBJ.out _).mono ?_
         rintro e w9 ⟨rfl, rfl⟩
         generalize skipAt l (j + 1) = i2 at *
         go_wp2_with fail
         go_roundw
         case rel => exact ⟨i2, _, _, _, _, _, rfl, hnl, HAF.out, by rw [HKN.out]; omega, by rw [List.length_append, HDN.out]; simp; omega, HM7.out, HB7.out⟩
         case measure => simp [intOf]; omega
       · have hcm : (((nb l j : Nat) : Int) != 44) = true := by simp; omega
         generalize hnj : nb l j = xj at *
         have HNG := Lib.hid hneg
         have H44 := Lib.hid h44
         clear hneg h44 hjc hnj
         obtain ⟨r3, j3, hno⟩ := here_no (α := Val) (l.drop j)
         have hno2 : gg = .no r3 j3 := by rw [HAFT.out, if_neg HNG.out, if_pos H44.out]; exact hno
         have hE := here_ne l j
         have hbh := fun wx => HBH.out wx j
         generalize hereE l j = ee at *
         have HF := Lib.hid fun (C : Value → Val → Prop) => TellE.bad2 (C := C) (n := l.length) hno2 hE 0 false false ⟨#[]⟩ 0 ⟨#[]⟩ none 0 0 none 0 0 0 j
         have HBHJ := Lib.hid hbh
         clear hno hno2 hE hbh
         go_wp2_with fail
         refine (HBHJ.out _).mono ?_
         rintro e w9 ⟨rfl, k9⟩
         have hgot := (k9.block _ (lt_of_heap HM7.out.got)).trans HM7.out.got
         have hbel := HB7.out.trans (k9.mono HB7.out.size)
         clear k9
         have h9 := set11 hgot (.int .i64 0) (.bool false) (.bool false) (.string ⟨#[]⟩) (.int .i64 0) (.string ⟨#[]⟩) (.slice none 0 0) (.slice none 0 0) (.int .i64 0) (.int .i64 j) (.int .i64 ee)
         have b9 := below11 hbel (Nat.le_refl _) (.int .i64 0) (.bool false) (.bool false) (.string ⟨#[]⟩) (.int .i64 0) (.string ⟨#[]⟩) (.slice none 0 0) (.slice none 0 0) (.int .i64 0) (.int .i64 j) (.int .i64 ee)
         obtain ⟨z0, z1, z2, z3, z4, z5, z6, z7, z8, z9, z10⟩ := eleven h9
         obtain ⟨y0, y1, y2, y3, y4, y5, y6, y7, y8, y9, y10⟩ := eleven hgot
         have qf := free_of hgot
         clear h9
         go_wp2_with fail
         refine bodyPost_ret (v := .agg #[.int .i64 0, .bool false, .bool false, .string ⟨#[]⟩, .int .i64 0, .string ⟨#[]⟩, .slice none 0 0, .slice none 0 0, .int .i64 0, .int .i64 j, .int .i64 ee]) (by simp [results, Tryz.results39, go_sem, z0, z1, z2, z3, z4, z5, z6, z7, z8, z9, z10]) rfl ⟨HF.out _, b9⟩
     · have hjd : decide (j < l.length) = false := decide_eq_false hjlt
       have hjd2 : decide (l.length ≤ j) = true := decide_eq_true (by omega)
       have hjd3 : (l.length : Int) ≤ (j : Int) := by omega
       have h44 : nb l j ≠ 44 := by rw [nb_past (by omega)]; decide
       have HNG := Lib.hid hneg
       have H44 := Lib.hid h44
       clear hneg h44 hjc
       obtain ⟨r3, j3, hno⟩ := here_no (α := Val) (l.drop j)
       have hno2 : gg = .no r3 j3 := by rw [HAFT.out, if_neg HNG.out, if_pos H44.out]; exact hno
       have hE := here_ne l j
       have hbh := fun wx => HBH.out wx j
       generalize hereE l j = ee at *
       have HF := Lib.hid fun (C : Value → Val → Prop) => TellE.bad2 (C := C) (n := l.length) hno2 hE 0 false false ⟨#[]⟩ 0 ⟨#[]⟩ none 0 0 none 0 0 0 j
       have HBHJ := Lib.hid hbh
       clear hno hno2 hE hbh
       go_wp2_with fail
       refine (HBHJ.out _).mono ?_
       rintro e w9 ⟨rfl, k9⟩
       have hgot := (k9.block _ (lt_of_heap HM7.out.got)).trans HM7.out.got
       have hbel := HB7.out.trans (k9.mono HB7.out.size)
       clear k9
       have h9 := set11 hgot (.int .i64 0) (.bool false) (.bool false) (.string ⟨#[]⟩) (.int .i64 0) (.string ⟨#[]⟩) (.slice none 0 0) (.slice none 0 0) (.int .i64 0) (.int .i64 j) (.int .i64 ee)
       have b9 := below11 hbel (Nat.le_refl _) (.int .i64 0) (.bool false) (.bool false) (.string ⟨#[]⟩) (.int .i64 0) (.string ⟨#[]⟩) (.slice none 0 0) (.slice none 0 0) (.int .i64 0) (.int .i64 j) (.int .i64 ee)
       obtain ⟨z0, z1, z2, z3, z4, z5, z6, z7, z8, z9, z10⟩ := eleven h9
       obtain ⟨y0, y1, y2, y3, y4, y5, y6, y7, y8, y9, y10⟩ := eleven hgot
       have qf := free_of hgot
       clear h9
       go_wp2_with fail
       refine bodyPost_ret (v := .agg #[.int .i64 0, .bool false, .bool false, .string ⟨#[]⟩, .int .i64 0, .string ⟨#[]⟩, .slice none 0 0, .slice none 0 0, .int .i64 0, .int .i64 j, .int .i64 ee]) (by simp [results, Tryz.results39, go_sem, z0, z1, z2, z3, z4, z5, z6, z7, z8, z9, z10]) rfl ⟨HF.out _, b9⟩
end Go.Proofs.YtlfbnfphocpgeaaGreatDoor.Jdec
