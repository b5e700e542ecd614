/- A part of what is_holds leans on (its texts, put together). Nothing is claimed here. -/
import Derived.BigRegion
import Derived.Test.YtlfbnfphocpgeaaGreatDoorIs34
namespace Go.Proofs.YtlfbnfphocpgeaaGreatDoor.Tre
open Go.RowKit Kit Txt Go.Sort
open Num (Dec zero)
def Sorted (lo hi : Nat) (cs : List Value) (v : Val) (w : World) (e : Ending) (w' : World) : Prop := e = .returned (.tuple #[]) ∧ HoldP (fun q => lo ≤ q ∧ q < hi) w' cs (sort v) ∧ Turn lo hi w w'
set_option maxRecDepth 100000 in
set_option maxHeartbeats 16000000 in
theorem sortobj_any : ∀ (v : Val), count v < 1000000 → Whole v → ∀ (w : World) (lo hi : Nat) (cs : List Value), Sep w lo hi cs v → lo ≤ hi → hi ≤ w.heap.size → Calls Tryz.prog 54 #[.agg cs.toArray] w (Sorted lo hi cs v w) := by
 refine ind1 fun v ih hct hwh w lo hi cs hsep hlo hhi => ?_
 have hw2 := whole_iff.1 hwh
 obtain ⟨k, b, n, s, ks, vs⟩ := v
 have hck : count ⟨k, b, n, s, ks, vs⟩ = 1 + ks.length + counts vs := by rw [count]
 have hlen := counts_lenF vs
 have hlk : ks.length < 1000000 := by omega
 have hlv : vs.length < 1000000 := by omega
 have IH : ∀ x ∈ vs, ∀ (w : World) (lo hi : Nat) (cs : List Value), Sep w lo hi cs x → lo ≤ hi → hi ≤ w.heap.size → Calls Tryz.prog 54 #[.agg cs.toArray] w (Sorted lo hi cs x w) := fun x hx => ih x hx (by have := counts_memF hx; omega) (hw2.2 x hx)
 have hown := hw2.1
 unfold Own Val.kind Val.keys Val.kids at hown
 dsimp only at hown
 have hN : ks = [] ∨ (k = 6 ∧ ks.length = vs.length) := by
   by_cases h6 : k = 6
   · exact .inr ⟨h6, hown.2.2.2.2.2.2.2.2.2.1 h6⟩
   · exact .inl (hown.2.2.2.2.2.2.1 h6)
 have hnd : ks.Nodup := hown.2.2.2.2.2.2.2.2.2.2.2
 have hN6 : (k = 6 → ks.length = vs.length) ∧ (k ≠ 6 → ks = []) := ⟨hown.2.2.2.2.2.2.2.2.2.1, hown.2.2.2.2.2.2.1⟩
 have HN6 := Lib.hid hN6
 clear ih hwh hw2 hown hck hN6
 rw [Sep] at hsep
 obtain ⟨uk, a, c, p, rfl, hp1, hp2, ⟨ak, ck, rfl, hck, hmk, hK⟩, hc, hm, hV⟩ := hsep
 have KB : ∃ (g : Nat) (bnd : Nat → Nat) (fr : Nat → F8), (∀ i, i < vs.length → bnd i ≤ bnd (i + 1)) ∧ bnd vs.length ≤ hi ∧ p ≤ bnd 0 ∧ (vs ≠ [] → a = some ⟨g, 0, none⟩ ∧ p ≤ g ∧ g < bnd 0 ∧ Blk w g) ∧
     ∀ (i : Nat) (v : Val), vs[i]? = some v → At8 w g (i * 8) (fr i).cells ∧ Sep w (bnd i) (bnd (i + 1)) (fr i).cells v := by
   rcases hV with rfl | ⟨g, ha, hg1, hg2, hb, hs⟩
   · exact ⟨0, fun _ => p, fun _ => ⟨0, false, zero, [], none, 0, 0, none, 0, 0⟩, fun _ _ => Nat.le_refl _, hp2, Nat.le_refl _, fun h => absurd rfl h, fun i v hv => by simp at hv⟩
   · obtain ⟨bnd, fr, e1, e2, e3, e4⟩ := Seps.bounds hs
     exact ⟨g, bnd, fr, e2, e3, by omega, fun _ => ⟨ha, hg1, by omega, hb⟩, fun i v hv => by simpa using e4 i v hv⟩
 obtain ⟨g, bnd, fr, hbm, hbh, hpb, hg0, hkid⟩ := KB
 have hbl := fun (i j : Nat) (h1 : i ≤ j) (h2 : j ≤ vs.length) => bnd_le hbm h1 h2
 have KK : ∃ gk : Nat, ks ≠ [] → ak = some ⟨gk, 0, none⟩ ∧ lo ≤ gk ∧ gk < p ∧ Blk w gk ∧ ∀ (i : Nat) (l : List UInt8), ks[i]? = some l → w.cell? ⟨gk, i, none⟩ = some (.string (txt l)) := by
   rcases hK with h | ⟨gk, ha, h1, h2, h3, h4⟩
   · exact ⟨0, fun h' => absurd h h'⟩
   · exact ⟨gk, fun _ => ⟨ha, h1, h2, h3, h4⟩⟩
 obtain ⟨gk, hk0⟩ := KK
 clear hK hV
 show Calls Tryz.prog 54 #[.agg #[.int .i64 k, .bool b, .bool n.neg, .string (txt n.dig), .int .i64 n.exp, .string (txt s), .slice ak ks.length ck, .slice a vs.length c]] w _
 have hA := World.alloc_heap_new w (.cells #[.int .i64 k, .bool b, .bool n.neg, .string (txt n.dig), .int .i64 n.exp, .string (txt s), .slice ak ks.length ck, .slice a vs.length c] 29)
 have tA : Turn (bnd 0) hi w (w.alloc (.cells #[.int .i64 k, .bool b, .bool n.neg, .string (txt n.dig), .int .i64 n.exp, .string (txt s), .slice ak ks.length ck, .slice a vs.length c] 29)) := Turn.of_below ((Below.refl _ w).alloc (Nat.le_refl _) _) (by have := hbl 0 vs.length (Nat.zero_le _) (Nat.le_refl _); omega)
 have hkidA : ∀ (i : Nat) (v : Val), vs[i]? = some v → Sep (w.alloc (.cells #[.int .i64 k, .bool b, .bool n.neg, .string (txt n.dig), .int .i64 n.exp, .string (txt s), .slice ak ks.length ck, .slice a vs.length c] 29)) (bnd i) (bnd (i + 1)) (fr i).cells v := fun i v hv => by
   have hi2 := (List.getElem?_eq_some_iff.1 hv).1
   have := hbl (i + 1) vs.length (by omega) (Nat.le_refl _)
   exact Sep.keep v (fun q _ h2 => ((Below.refl w.heap.size w).alloc (Nat.le_refl _) _).block q (by omega)) (hkid i v hv).2
 have HKID := Lib.hid hkid
 have HIH := Lib.hid IH
 have HN := Lib.hid hN
 have HND := Lib.hid hnd
 have HG0 := Lib.hid hg0
 have HK0 := Lib.hid hk0
 have HBL := Lib.hid hbl
 have HBH := Lib.hid (And.intro hbm (And.intro hbh hpb))
 have HP := Lib.hid (And.intro hp1 (And.intro hp2 (And.intro hlo hhi)))
 have HKA := Lib.hid hkidA
 have HTA := Lib.hid tA
 clear hkid IH hN hnd hg0 hk0 hbl hbm hbh hpb hp1 hp2 hlo hhi hkidA tA
 obtain ⟨c0, c1, c2, c3, c4, c5, c6, c7⟩ := eight hA
 go_enter Tryz.func54, Tryz.ntmps54
 go_wp2_with fail
 clear c0 c1 c2 c3 c4 c5 c6 c7
 go_loopw [12] (fun y wr => ∃ j : Nat, j ≤ vs.length ∧ y = .int .i64 j ∧ (∀ (i : Nat) (v : Val), vs[i]? = some v → i < j → HoldP (fun q => bnd i ≤ q ∧ q < bnd (i + 1)) wr (fr i).cells (sort v)) ∧ (∀ (i : Nat) (v : Val), vs[i]? = some v → j ≤ i → Sep wr (bnd i) (bnd (i + 1)) (fr i).cells v) ∧ wr.heap[w.heap.size]? = some (.cells #[.int .i64 k, .bool b, .bool n.neg, .string (txt n.dig), .int .i64 n.exp, .string (txt s), .slice ak ks.length ck, .slice a vs.length c] 29 (0, 0)) ∧ Turn (bnd 0) hi w wr) (fun y _ => vs.length - (intOf y).toNat)
 case atStart => exact ⟨0, Nat.zero_le _, rfl, fun i v _ h => absurd h (Nat.not_lt_zero _), fun i v hv _ => HKA.out i v hv, hA, HTA.out⟩
 case round =>
   obtain ⟨j, hj, rfl, hdone, htodo, hA1, hT⟩ := hrel
   clear hA HKA HTA
   have hlA := lt_of_heap hA1
   by_cases hlt : j < vs.length
   · have hlt' : (j : Int) < (vs.length : Int) := by omega
     have hne : vs ≠ [] := fun e => by rw [e] at hlt; exact absurd hlt (Nat.not_lt_zero _)
     obtain ⟨rfl, hg1, hg2, hgb⟩ := HG0.out hne
     have hget := List.getElem?_eq_getElem hlt
     obtain ⟨h8, -⟩ := HKID.out j _ hget
     have hS := htodo j _ hget (Nat.le_refl _)
     have hcall := HIH.out vs[j] (List.getElem_mem hlt)
     have hgl : g < w.heap.size := hgb.lt
     have h8' : At8 wr g (j * 8) (fr j).cells := ⟨h8.1, fun t ht => by
       rw [← h8.2 t ht]
       unfold World.cell?
       rw [hT.1.block g hg2]⟩
     have b1 := HBL.out j (j + 1) (by omega) (by omega)
     have b2 := HBL.out (j + 1) vs.length (by omega) (Nat.le_refl _)
     have b3 := HBL.out 0 j (by omega) (by omega)
     have b4 := HBH.out.2.1
     have b5 := HP.out.2.2.2
     have b6 := hT.1.size
     have HDONE := Lib.hid hdone
     have HTODO := Lib.hid htodo
     have HT := Lib.hid hT
     have HGET := Lib.hid hget
     clear hdone htodo h8 hget
     generalize vs[j] = x at *
     obtain ⟨fj, hfj⟩ : ∃ fj, fr j = fj := ⟨_, rfl⟩
     rw [hfj] at hS h8'
     have HFJ := Lib.hid hfj
     clear hfj
     obtain ⟨x0, x1, x2, x3, x4, x5, x6, x7⟩ := F8.at h8'
     have hA2 := World.alloc_heap_new wr (.cells #[.int .i64 fj.k, .bool fj.b, .bool fj.n.neg, .string (txt fj.n.dig), .int .i64 fj.n.exp, .string (txt fj.s), .slice fj.pk fj.lk fj.ck, .slice fj.a fj.lv fj.c] 29)
     have hA3 := new_of hA1 (.cells #[.int .i64 fj.k, .bool fj.b, .bool fj.n.neg, .string (txt fj.n.dig), .int .i64 fj.n.exp, .string (txt fj.s), .slice fj.pk fj.lk fj.ck, .slice fj.a fj.lv fj.c] 29)
     obtain ⟨wB, hwB⟩ : ∃ wB, wr.alloc (.cells #[.int .i64 fj.k, .bool fj.b, .bool fj.n.neg, .string (txt fj.n.dig), .int .i64 fj.n.exp, .string (txt fj.s), .slice fj.pk fj.lk fj.ck, .slice fj.a fj.lv fj.c] 29) = wB := ⟨_, rfl⟩
     have bC : Below wr.heap.size wr wB := by
       rw [← hwB]
       exact (Below.refl _ wr).alloc (Nat.le_refl _) _
     have zC : wB.heap.size = wr.heap.size + 1 := by rw [← hwB]; simp
     rw [hwB] at hA2 hA3
     have HW := Lib.hid hwB
     clear hwB
     obtain ⟨e0, e1, e2, e3, e4, e5, e6, e7⟩ := eight hA2
     obtain ⟨c0, c1, c2, c3, c4, c5, c6, c7⟩ := eight hA1
     have hcall' : Calls Tryz.prog 54 #[.agg #[.int .i64 fj.k, .bool fj.b, .bool fj.n.neg, .string (txt fj.n.dig), .int .i64 fj.n.exp, .string (txt fj.s), .slice fj.pk fj.lk fj.ck, .slice fj.a fj.lv fj.c]] wB (Sorted (bnd j) (bnd (j + 1)) fj.cells x wB) := hcall wB (bnd j) (bnd (j + 1)) fj.cells (Sep.keep x (fun q _ h2 => bC.block q (by omega)) hS) b1 (by omega)
     have HC := Lib.hid hcall'
     have wk : IntKind.i64.wrap ((j : Int) + 1) = (j : Int) + 1 := by simp only [IntKind.wrap, IntKind.signed, IntKind.bits]; simp; omega
     clear hcall' hcall hS h8' hT hgb
     go_wp2_with fail
     rw [HW.out]
     go_wp2_with fail
     refine HC.out.mono ?_
     rintro e w1 ⟨rfl, hH, hT1⟩
     have hA4 := (hT1.2 w.heap.size (by omega) (by rw [zC]; omega)).trans hA3
     have hTn : Turn (bnd 0) hi w w1 := HT.out.trans ((Turn.of_below bC (by omega)).trans (hT1.wide b3 (by omega)))
     have hD : ∀ (i : Nat) (v : Val), vs[i]? = some v → i < j + 1 → HoldP (fun q => bnd i ≤ q ∧ q < bnd (i + 1)) w1 (fr i).cells (sort v) := fun i v hv hij => by
       by_cases e : i = j
       · subst e
         rw [HGET.out] at hv
         injection hv with hv
         subst hv
         rw [HFJ.out]
         exact hH
       · have := HBL.out (i + 1) j (by omega) (by omega)
         exact HoldP.keep (Nat.le_trans bC.size hT1.1.size) (fun q hq hlt => (hT1.1.block q (by omega)).trans (bC.block q hlt)) (sort v) (HDONE.out i v hv (by omega))
     have hE : ∀ (i : Nat) (v : Val), vs[i]? = some v → j + 1 ≤ i → Sep w1 (bnd i) (bnd (i + 1)) (fr i).cells v := fun i v hv hij => by
       have hi2 := (List.getElem?_eq_some_iff.1 hv).1
       have q1 := HBL.out (j + 1) i (by omega) (by omega)
       have q2 := HBL.out (i + 1) vs.length (by omega) (Nat.le_refl _)
       exact Sep.keep v (fun q h1 h2 => (hT1.2 q (by omega) (by omega)).trans (bC.block q (by omega))) (HTODO.out i v hv (by omega))
     have R1 := Lib.hid hD
     have R2 := Lib.hid hE
     have R3 := Lib.hid hTn
     clear hD hE hTn hH hT1
     go_wp2_with fail
     go_roundw
     case rel => exact ⟨j + 1, by omega, by go_num, R1.out, R2.out, hA4, R3.out⟩
     case measure => simp [intOf]; omega
   · obtain rfl : j = vs.length := by omega
     obtain ⟨W1, rfl⟩ : ∃ x, x = wr := ⟨_, rfl⟩
     have hH1 : ∀ (i : Nat) (v : Val), vs[i]? = some v → HoldP (fun q => bnd i ≤ q ∧ q < bnd (i + 1)) W1 (fr i).cells (sort v) := fun i v hv => hdone i v hv (List.getElem?_eq_some_iff.1 hv).1
     have HH1 := Lib.hid hH1
     have HT := Lib.hid hT
     have b6 := hT.1.size
     clear hdone htodo hH1 hT hlt HIH
     obtain ⟨c0, c1, c2, c3, c4, c5, c6, c7⟩ := eight hA1
     obtain ⟨arr0, hz0, hmk2⟩ := make_fld hlk W1
     have hF := World.alloc_heap_new W1 (.cells arr0 116)
     have hAF := new_of hA1 (.cells arr0 116)
     have bF : Below W1.heap.size W1 (W1.alloc (.cells arr0 116)) := (Below.refl _ W1).alloc (Nat.le_refl _) _
     have HMK := Lib.hid (And.intro hmk2 hz0)
     go_wp2_with fail
     clear c0 c1 c2 c3 c4 c5 c6 c7 hmk2
     go_loopw [26] (fun y w2 => ∃ m : Nat, m ≤ ks.length ∧ y = .int .i64 m ∧ (∃ arr : Array Value, w2.heap[W1.heap.size]? = some (.cells arr 116 (0, 0)) ∧ arr.size = ks.length * 9) ∧ (∀ i, i < m → ∀ t, t < 9 → w2.cell? ⟨W1.heap.size, i * 9 + t, none⟩ = (encR (fld ks vs fr i))[t]?) ∧ Below W1.heap.size W1 w2) (fun y _ => ks.length - (intOf y).toNat)
     case atStart => exact ⟨0, Nat.zero_le _, rfl, ⟨_, hF, hz0⟩, fun i h => absurd h (Nat.not_lt_zero _), bF⟩
     case round =>
       obtain ⟨m, hm9, rfl, ⟨arr, hF2, hzF⟩, hrow, b2⟩ := hrel
       clear hF hAF bF hz0
       have hA2 := (b2.block _ hlA).trans hA1
       have hlF := lt_of_heap hF2
       by_cases hlt : m < ks.length
       · have hlt' : (m : Int) < (ks.length : Int) := by omega
         have hnek : ks ≠ [] := fun e => by rw [e] at hlt; exact absurd hlt (Nat.not_lt_zero _)
         have h6 := HN.out.resolve_left hnek
         have hltv : m < vs.length := by omega
         have hltv' : (m : Int) < (vs.length : Int) := by omega
         have hnev : vs ≠ [] := fun e => by rw [e] at hltv; exact absurd hltv (Nat.not_lt_zero _)
         obtain ⟨rfl, hg1, hg2, hgb⟩ := HG0.out hnev
         obtain ⟨rfl, hk1, hk2, hkb, hkc⟩ := HK0.out hnek
         have q1 := HBL.out 0 vs.length (Nat.zero_le _) (Nat.le_refl _)
         have q2 := HBH.out.2
         have q3 := HP.out
         have t1 := HT.out.1
         have hkey : wr.cell? ⟨gk, m, none⟩ = some (.string (txt ks[m])) := by
           rw [← hkc m _ (List.getElem?_eq_getElem hlt)]
           unfold World.cell?
           rw [b2.block gk (by have := hkb.lt; omega), t1.block gk (by omega)]
         have hgl : g < w.heap.size := hgb.lt
         have h8' : At8 wr g (m * 8) (fr m).cells := ⟨rfl, fun t ht => by
           rw [← (HKID.out m _ (List.getElem?_eq_getElem hltv)).1.2 t ht]
           unfold World.cell?
           rw [b2.block g (by omega), t1.block g (by omega)]⟩
         have hgl2 : g < wr.heap.size := by have := b2.size; omega
         have hkl2 : gk < wr.heap.size := by have := b2.size; have := hkb.lt; omega
         have hfld : fld ks vs fr m = ⟨ks[m], fr m, sort vs[m]⟩ := by
           unfold fld
           rw [List.getD_eq_getElem?_getD, List.getElem?_eq_getElem hlt, List.getD_eq_getElem?_getD, List.getElem?_eq_getElem hltv]
           rfl
         have HFLD := Lib.hid hfld
         have HROW := Lib.hid hrow
         have HB2 := Lib.hid b2
         clear hfld hrow hkc hkb hgb t1
         generalize sort vs[m] = sv at *
         generalize ks[m] = key at *
         obtain ⟨fj, hfj⟩ : ∃ fj, fr m = fj := ⟨_, rfl⟩
         rw [hfj] at h8' HFLD
         clear hfj
         obtain ⟨x0, x1, x2, x3, x4, x5, x6, x7⟩ := F8.at h8'
         obtain ⟨c0, c1, c2, c3, c4, c5, c6, c7⟩ := eight hA2
         obtain ⟨z0, z1, z2, z3, z4, z5, z6, z7, z8, f0, f1, f2, f3, f4, f5, f6, f7, f8⟩ := block9 hF2 (o := m * 9) (by omega)
         have g0 := free_of hF2 (m * 9)
         have g1 := free_of hF2 (m * 9 + 1)
         have g2 := free_of hF2 (m * 9 + 2)
         have g3 := free_of hF2 (m * 9 + 3)
         have g4 := free_of hF2 (m * 9 + 4)
         have g5 := free_of hF2 (m * 9 + 5)
         have g6 := free_of hF2 (m * 9 + 6)
         have g7 := free_of hF2 (m * 9 + 7)
         have g8 := free_of hF2 (m * 9 + 8)
         have wk : IntKind.i64.wrap ((m : Int) + 1) = (m : Int) + 1 := by simp only [IntKind.wrap, IntKind.signed, IntKind.bits]; simp; omega
         have fin1 : ∃ arr : Array Value, (put9 wr W1.heap.size (m * 9) (.string (txt key)) (.int .i64 fj.k) (.bool fj.b) (.bool fj.n.neg) (.string (txt fj.n.dig)) (.int .i64 fj.n.exp) (.string (txt fj.s)) (.slice fj.pk fj.lk fj.ck) (.slice fj.a fj.lv fj.c)).heap[W1.heap.size]? = some (.cells arr 116 (0, 0)) ∧ arr.size = ks.length * 9 := by
           obtain ⟨arr', h1, h2⟩ := put9_own hF2 (.string (txt key)) (.int .i64 fj.k) (.bool fj.b) (.bool fj.n.neg) (.string (txt fj.n.dig)) (.int .i64 fj.n.exp) (.string (txt fj.s)) (.slice fj.pk fj.lk fj.ck) (.slice fj.a fj.lv fj.c) (o := m * 9)
           exact ⟨arr', h2, by omega⟩
         have fin2 : ∀ i, i < m + 1 → ∀ t, t < 9 → (put9 wr W1.heap.size (m * 9) (.string (txt key)) (.int .i64 fj.k) (.bool fj.b) (.bool fj.n.neg) (.string (txt fj.n.dig)) (.int .i64 fj.n.exp) (.string (txt fj.s)) (.slice fj.pk fj.lk fj.ck) (.slice fj.a fj.lv fj.c)).cell? ⟨W1.heap.size, i * 9 + t, none⟩ = (encR (fld ks vs fr i))[t]? := fun i hi t ht => by
           by_cases e : i = m
           · subst e
             rw [put9_at hF2 (by omega) _ _ _ _ _ _ _ _ _ t ht, HFLD.out]
             rfl
           · rw [put9_cell (by omega)]
             exact HROW.out i (by omega) t ht
         have fin3 : Below W1.heap.size W1 (put9 wr W1.heap.size (m * 9) (.string (txt key)) (.int .i64 fj.k) (.bool fj.b) (.bool fj.n.neg) (.string (txt fj.n.dig)) (.int .i64 fj.n.exp) (.string (txt fj.s)) (.slice fj.pk fj.lk fj.ck) (.slice fj.a fj.lv fj.c)) := put9_below HB2.out (Nat.le_refl _) _ _ _ _ _ _ _ _ _ _
         unfold put9 at fin1 fin2 fin3
         have F1 := Lib.hid fin1
         have F2 := Lib.hid fin2
         have F3 := Lib.hid fin3
         clear fin1 fin2 fin3 h8' b2
         go_wp2_with fail
         go_roundw
         case rel => exact ⟨m + 1, by omega, by go_num, F1.out, F2.out, F3.out⟩
         case measure => simp [intOf]; omega
       · obtain rfl : m = ks.length := by omega
         obtain ⟨W2, rfl⟩ : ∃ x, x = wr := ⟨_, rfl⟩
         obtain ⟨d, hd⟩ : ∃ d : Array FRow, ((List.range ks.length).map (fld ks vs fr)).toArray = d := ⟨_, rfl⟩
         have hdz : d.size = ks.length := by rw [← hd]; simp
         have hdi : ∀ i, i < ks.length → d[i]! = fld ks vs fr i := fun i hi => by
           rw [getElem!_pos d i (by omega)]
           simp [← hd]
         have hHK : HoldsK encR 9 W2 W1.heap.size 0 d := holdsK_of hdz ⟨_, _, hF2⟩ (fun i hi t ht => by rw [hdi i hi]; exact hrow i hi t ht)
         have hrise := rise_any (cap := ks.length) hHK hlF (by omega)
         rw [hdz] at hrise
         have HR := Lib.hid hrise
         have HD := Lib.hid hd
         have HDZ := Lib.hid hdz
         have HB2 := Lib.hid b2
         clear hrow hrise hHK hdi hd hdz hlt
         go_wp2_with fail
         refine HR.out.mono ?_
         rintro e w3 ⟨rfl, ⟨d', hz', hperm, hpw, hK'⟩, hg3⟩
         have hA3 := (hg3.block _ (by omega) (fun e => by injection e with e; omega)).trans hA2
         have HK3 := Lib.hid hK'
         have HPM := Lib.hid (And.intro hz' (And.intro hperm hpw))
         have HG3 := Lib.hid hg3
         have hz3 := hg3.size
         have hb2z := HB2.out.size
         have hFn : W1.heap.size < w3.heap.size := by omega
         -- the blocks of keys and kids are as long as they must be
         have hbig : ks ≠ [] → (∃ (arr : Array Value) (t : TypeId), w3.heap[gk]? = some (.cells arr t (0, 0)) ∧ ks.length ≤ arr.size) ∧ (∃ (arr : Array Value) (t : TypeId), w3.heap[g]? = some (.cells arr t (0, 0)) ∧ vs.length * 8 ≤ arr.size) := fun hne => by
           have h6 := HN.out.resolve_left hne
           have hpos : 0 < ks.length := List.length_pos_iff.2 hne
           have hnev : vs ≠ [] := fun e => by rw [e] at h6; simp at h6; exact hne h6.2
           obtain ⟨-, hg1, hg2, hgb⟩ := HG0.out hnev
           obtain ⟨-, hk1, hk2, hkb, hkc⟩ := HK0.out hne
           have q1 := HBL.out 0 vs.length (Nat.zero_le _) (Nat.le_refl _)
           have q2 := HBH.out.2
           have q3 := HP.out
           have hsame : ∀ q, q < bnd 0 → q < w.heap.size → w3.heap[q]? = w.heap[q]? := fun q h1 h2 => (hg3.block q (by omega) (fun e => by injection e with e; omega)).trans ((HB2.out.block q (by omega)).trans (HT.out.1.block q h1))
           obtain ⟨arrk, tk, hbk⟩ := hkb
           obtain ⟨arrg, tg, hbg⟩ := hgb
           refine ⟨⟨arrk, tk, (hsame gk (by omega) (lt_of_heap hbk)).trans hbk, ?_⟩, ⟨arrg, tg, (hsame g hg2 (lt_of_heap hbg)).trans hbg, ?_⟩⟩
           · have h1 := hkc (ks.length - 1) _ (List.getElem?_eq_getElem (by omega))
             rw [cell_of hbk] at h1
             have := (Array.getElem?_eq_some_iff.1 h1).1
             omega
           · have h1 := (HKID.out (vs.length - 1) _ (List.getElem?_eq_getElem (by omega))).1.2 7 (by omega)
             rw [cell_of hbg] at h1
             have h2 : (fr (vs.length - 1)).cells[7]? = some (.slice (fr (vs.length - 1)).a (fr (vs.length - 1)).lv (fr (vs.length - 1)).c) := rfl
             rw [h2] at h1
             have := (Array.getElem?_eq_some_iff.1 h1).1
             omega
         have HBIG := Lib.hid hbig
         clear hbig hK' hz' hperm hpw hg3 HR
         go_wp2_with fail
         go_loopw [46] (fun y wr => ∃ m : Nat, m ≤ ks.length ∧ y = .int .i64 m ∧ (m = 0 → wr.heap[g]? = w3.heap[g]?) ∧ (∀ i, i < m → wr.cell? ⟨gk, i, none⟩ = some (.string (txt (d'[i]!).key)) ∧ At8 wr g (i * 8) (d'[i]!).f.cells) ∧ (ks ≠ [] → (∃ (arr : Array Value) (t : TypeId), wr.heap[gk]? = some (.cells arr t (0, 0)) ∧ ks.length ≤ arr.size) ∧ (∃ (arr : Array Value) (t : TypeId), wr.heap[g]? = some (.cells arr t (0, 0)) ∧ vs.length * 8 ≤ arr.size)) ∧
           Below 0 w3 wr ∧ ∀ q, q < w3.heap.size → q ≠ gk ∨ ks = [] → q ≠ g ∨ ks = [] → wr.heap[q]? = w3.heap[q]?) (fun y _ => ks.length - (intOf y).toNat)
         case atStart => exact ⟨0, Nat.zero_le _, rfl, fun _ => rfl, fun i h => absurd h (Nat.not_lt_zero _), HBIG.out, Below.refl _ _, fun _ _ _ _ => rfl⟩
         case round =>
           obtain ⟨m, hm9, rfl, hm0, hdn, hbg, hB0, hoth⟩ := hrel
           have hBz := hB0.size
           by_cases hlt : m < ks.length
           · have hlt' : (m : Int) < (ks.length : Int) := by omega
             have hnek : ks ≠ [] := fun e => by rw [e] at hlt; exact absurd hlt (Nat.not_lt_zero _)
             have hltv : m < vs.length := by have h6 := HN.out.resolve_left hnek; omega
             have hltv' : (m : Int) < (vs.length : Int) := by omega
             have hnev : vs ≠ [] := fun e => by rw [e] at hltv; exact absurd hltv (Nat.not_lt_zero _)
             obtain ⟨rfl, hg1, hg2, hgb⟩ := HG0.out hnev
             obtain ⟨rfl, hk1, hk2, hkb, hkc⟩ := HK0.out hnek
             obtain ⟨⟨arrk, tk, hbk, hak⟩, ⟨arrg, tg, hbg2, hag⟩⟩ := hbg hnek
             have q2 := HBH.out.2
             have q3 := HP.out
             have q1 := HBL.out 0 vs.length (Nat.zero_le _) (Nat.le_refl _)
             have hgl : g < w.heap.size := hgb.lt
             have hkl := hkb.lt
             have hne1 : gk ≠ g := by omega
             have hA4 := (hoth w.heap.size (by omega) (.inl (by omega)) (.inl (by omega))).trans hA3
             have hFs := hoth W1.heap.size hFn (.inl (by omega)) (.inl (by omega))
             have hcF : ∀ t, t < 9 → wr.cell? ⟨W1.heap.size, m * 9 + t, none⟩ = (encR d'[m]!)[t]? := fun t ht => by
               have h1 := (HoldsK.cell HK3.out (i := m) (c := t) (by rw [HPM.out.1, HDZ.out]; exact hlt) ht).1
               rw [Nat.zero_add] at h1
               have h2 : (encR d'[m]!)[t]? = some ((encR d'[m]!)[t]!) := by
                 have hl : t < (encR d'[m]!).length := ht
                 rw [getElem!_pos (encR d'[m]!) t hl, List.getElem?_eq_getElem hl]
               rw [h2, ← h1]
               unfold World.cell?
               rw [hFs]
             have HDN := Lib.hid hdn
             have HOTH := Lib.hid hoth
             have HB0 := Lib.hid hB0
             obtain ⟨dm, hdm⟩ : ∃ dm, d'[m]! = dm := ⟨_, rfl⟩
             rw [hdm] at hcF
             have HDM := Lib.hid hdm
             clear hdm hdn hoth hB0 hbg hkc hkb hgb hm0
             obtain ⟨key, fm, sv⟩ := dm
             have y0 := hcF 0 (by omega)
             have y1 := hcF 1 (by omega)
             have y2 := hcF 2 (by omega)
             have y3 := hcF 3 (by omega)
             have y4 := hcF 4 (by omega)
             have y5 := hcF 5 (by omega)
             have y6 := hcF 6 (by omega)
             have y7 := hcF 7 (by omega)
             have y8 := hcF 8 (by omega)
             simp only [encR, F8.cells, Nat.add_zero, List.getElem?_cons_zero, List.getElem?_cons_succ] at y0 y1 y2 y3 y4 y5 y6 y7 y8
             have lW1 : W1.heap.size < wr.heap.size := by omega
             have hX := World.alloc_heap_new wr (.cells #[.string (txt key), .int .i64 fm.k, .bool fm.b, .bool fm.n.neg, .string (txt fm.n.dig), .int .i64 fm.n.exp, .string (txt fm.s), .slice fm.pk fm.lk fm.ck, .slice fm.a fm.lv fm.c] 116)
             have hA5 := new_of hA4 (.cells #[.string (txt key), .int .i64 fm.k, .bool fm.b, .bool fm.n.neg, .string (txt fm.n.dig), .int .i64 fm.n.exp, .string (txt fm.s), .slice fm.pk fm.lk fm.ck, .slice fm.a fm.lv fm.c] 116)
             have hbk5 := new_of hbk (.cells #[.string (txt key), .int .i64 fm.k, .bool fm.b, .bool fm.n.neg, .string (txt fm.n.dig), .int .i64 fm.n.exp, .string (txt fm.s), .slice fm.pk fm.lk fm.ck, .slice fm.a fm.lv fm.c] 116)
             have hbg5 := new_of hbg2 (.cells #[.string (txt key), .int .i64 fm.k, .bool fm.b, .bool fm.n.neg, .string (txt fm.n.dig), .int .i64 fm.n.exp, .string (txt fm.s), .slice fm.pk fm.lk fm.ck, .slice fm.a fm.lv fm.c] 116)
             obtain ⟨wB, hwB⟩ : ∃ wB, wr.alloc (.cells #[.string (txt key), .int .i64 fm.k, .bool fm.b, .bool fm.n.neg, .string (txt fm.n.dig), .int .i64 fm.n.exp, .string (txt fm.s), .slice fm.pk fm.lk fm.ck, .slice fm.a fm.lv fm.c] 116) = wB := ⟨_, rfl⟩
             have bC : Below wr.heap.size wr wB := by
               rw [← hwB]
               exact (Below.refl _ wr).alloc (Nat.le_refl _) _
             rw [hwB] at hX hA5 hbk5 hbg5
             have HW := Lib.hid hwB
             clear hwB hcF
             have a6 := cell_of hA5 6
             have a7 := cell_of hA5 7
             have p0 := cell_of hX 0
             have p1 := cell_of hX 1
             have p2 := cell_of hX 2
             have p3 := cell_of hX 3
             have p4 := cell_of hX 4
             have p5 := cell_of hX 5
             have p6 := cell_of hX 6
             have p7 := cell_of hX 7
             have p8 := cell_of hX 8
             have s0 : wB.cell? ⟨gk, m, none⟩ = some arrk[m] := (cell_of hbk5 m).trans (Array.getElem?_eq_getElem (by omega))
             have r0 := free_of hbk5 m
             obtain ⟨z0, z1, z2, z3, z4, z5, z6, z7, f0, f1, f2, f3, f4, f5, f6, f7⟩ := block8 hbg5 (o := m * 8) (by omega)
             have g0 := free_of hbg5 (m * 8)
             have g1 := free_of hbg5 (m * 8 + 1)
             have g2 := free_of hbg5 (m * 8 + 2)
             have g3 := free_of hbg5 (m * 8 + 3)
             have g4 := free_of hbg5 (m * 8 + 4)
             have g5 := free_of hbg5 (m * 8 + 5)
             have g6 := free_of hbg5 (m * 8 + 6)
             have g7 := free_of hbg5 (m * 8 + 7)
             have wk : IntKind.i64.wrap ((m : Int) + 1) = (m : Int) + 1 := by simp only [IntKind.wrap, IntKind.signed, IntKind.bits]; simp; omega
             have n1 : ¬ gk = g := hne1
             have n2 : ¬ g = gk := fun e => hne1 e.symm
             simp only [List.getElem?_toArray, List.getElem?_cons_zero, List.getElem?_cons_succ] at a6 a7 p0 p1 p2 p3 p4 p5 p6 p7 p8
             have hg5 : (wB.setCell ⟨gk, m, none⟩ (.string (txt key))).heap[g]? = some (.cells arrg tg (0, 0)) := (setc_other _ n2).trans hbg5
             have hk5 := set_of hbk5 m (.string (txt key))
             obtain ⟨Q0, hQ0⟩ : ∃ Q0, wB.setCell ⟨gk, m, none⟩ (.string (txt key)) = Q0 := ⟨_, rfl⟩
             have hq1 : ∀ q, q ≠ gk → Q0.heap[q]? = wB.heap[q]? := fun q hq => by
               rw [← hQ0]
               exact setc_other _ hq
             have hq2 : Q0.cell? ⟨gk, m, none⟩ = some (.string (txt key)) := by
               rw [← hQ0]
               exact World.cell?_setCell_same _ _ _ s0
             have hq3 : ∀ i, i ≠ m → Q0.cell? ⟨gk, i, none⟩ = wB.cell? ⟨gk, i, none⟩ := fun i hi => by
               rw [← hQ0]
               exact World.cell?_setCell_other _ _ _ _ (fun h => hi (by injection h with _ h _; exact h.symm))
             have hq5 : Below 0 w3 Q0 := by
               rw [← hQ0]
               exact (HB0.out.trans (bC.mono (Nat.zero_le _))).setCell (p := ⟨gk, m, none⟩) (Nat.zero_le _) _
             rw [hQ0] at hg5 hk5
             obtain ⟨P0, hP0⟩ : ∃ P0, put8 Q0 g (m * 8) (.int .i64 fm.k) (.bool fm.b) (.bool fm.n.neg) (.string (txt fm.n.dig)) (.int .i64 fm.n.exp) (.string (txt fm.s)) (.slice fm.pk fm.lk fm.ck) (.slice fm.a fm.lv fm.c) = P0 := ⟨_, rfl⟩
             have hp1 : ∀ q, q ≠ g → P0.heap[q]? = Q0.heap[q]? := fun q hq => by
               rw [← hP0]
               exact put8_block hq _ _ _ _ _ _ _ _
             have hp2 : At8 P0 g (m * 8) fm.cells := by
               rw [← hP0]
               exact put8_at hg5 (by omega) _ _ _ _ _ _ _ _
             have hp3 : ∀ i, i < m * 8 ∨ m * 8 + 8 ≤ i → P0.cell? ⟨g, i, none⟩ = Q0.cell? ⟨g, i, none⟩ := fun i hi => by
               rw [← hP0]
               exact put8_cell hi _ _ _ _ _ _ _ _
             have hp4 : ∃ arr' : Array Value, arr'.size = arrg.size ∧ P0.heap[g]? = some (.cells arr' tg (0, 0)) := by
               rw [← hP0]
               exact put8_own hg5 _ _ _ _ _ _ _ _
             have hp5 : Below 0 w3 P0 := by
               rw [← hP0]
               exact put8_below hq5 (Nat.zero_le _) _ _ _ _ _ _ _ _ _
             have fin1 : ∀ i, i < m + 1 → P0.drew.cell? ⟨gk, i, none⟩ = some (.string (txt (d'[i]!).key)) ∧ At8 P0.drew g (i * 8) (d'[i]!).f.cells := fun i hi => by
               have hgkb : ∀ t, P0.cell? ⟨gk, t, none⟩ = Q0.cell? ⟨gk, t, none⟩ := fun t => by
                 unfold World.cell?
                 rw [hp1 gk n1]
               by_cases e : i = m
               · subst e
                 rw [HDM.out]
                 exact ⟨(hgkb _).trans hq2, hp2⟩
               · obtain ⟨o1, o2⟩ := HDN.out i (by omega)
                 refine ⟨?_, rfl, fun t ht => ?_⟩
                 · refine (hgkb i).trans ((hq3 i e).trans ?_)
                   rw [← o1]
                   unfold World.cell?
                   rw [bC.block gk (lt_of_heap hbk)]
                 · refine (hp3 (i * 8 + t) (by omega)).trans ?_
                   rw [← o2.2 t ht]
                   unfold World.cell?
                   rw [hq1 g n2, bC.block g (lt_of_heap hbg2)]
             have fin2 : (∃ (arr : Array Value) (t : TypeId), P0.drew.heap[gk]? = some (.cells arr t (0, 0)) ∧ ks.length ≤ arr.size) ∧ (∃ (arr : Array Value) (t : TypeId), P0.drew.heap[g]? = some (.cells arr t (0, 0)) ∧ vs.length * 8 ≤ arr.size) := by
               refine ⟨⟨_, tk, (hp1 gk n1).trans hk5, by rw [Array.size_setIfInBounds]; exact hak⟩, ?_⟩
               obtain ⟨arr', h1, h2⟩ := hp4
               exact ⟨arr', tg, h2, by omega⟩
             have fin3 : Below 0 w3 P0.drew := below_drewN hp5 1
             have fin4 : ∀ q, q < w3.heap.size → q ≠ gk ∨ ks = [] → q ≠ g ∨ ks = [] → P0.drew.heap[q]? = w3.heap[q]? := fun q h1 h2 h3 =>
               (hp1 q (h3.resolve_right hnek)).trans ((hq1 q (h2.resolve_right hnek)).trans ((bC.block q (by omega)).trans (HOTH.out q h1 h2 h3)))
             unfold put8 at hP0
             have F1 := Lib.hid fin1
             have F2 := Lib.hid fin2
             have F3 := Lib.hid fin3
             have F4 := Lib.hid fin4
             have HQ0 := Lib.hid hQ0
             have HP0 := Lib.hid hP0
             clear fin1 fin2 fin3 fin4 hg5 hk5 hq1 hq2 hq3 hq5 hp1 hp2 hp3 hp4 hp5 hQ0 hP0
             go_wp2_with fail
             rw [HW.out]
             go_wp2_with fail
             go_region
             rw [HQ0.out, HP0.out]
             go_wp2_with fail
             go_roundw
             case rel =>
               exact ⟨m + 1, by omega, by go_num, fun h => absurd h (by omega), F1.out, fun _ => F2.out, F3.out, F4.out⟩
             case measure => simp [intOf]; omega
           · obtain rfl : m = ks.length := by omega
             have q2 := HBH.out.2
             have q3 := HP.out
             have q1 := HBL.out 0 vs.length (Nat.zero_le _) (Nat.le_refl _)
             have hgkr : ks ≠ [] → lo ≤ gk ∧ gk < p := fun hne => ⟨(HK0.out hne).2.1, (HK0.out hne).2.2.1⟩
             have hvne : ks ≠ [] → vs ≠ [] := fun hne e => by
               have h6 := HN.out.resolve_left hne
               have := List.length_pos_iff.2 hne
               rw [e] at h6
               simp at h6
               exact hne h6.2
             have hgr : vs ≠ [] → a = some ⟨g, 0, none⟩ ∧ p ≤ g ∧ g < bnd 0 ∧ Blk w g := HG0.out
             have hsame : ∀ q, q < w.heap.size → (ks ≠ [] → q ≠ gk) → (ks ≠ [] → q ≠ g) → wr.heap[q]? = W1.heap[q]? := fun q h1 h2 h3 => by
               have n1 : q ≠ gk ∨ ks = [] := by
                 by_cases e : ks = []
                 · exact .inr e
                 · exact .inl (h2 e)
               have n2 : q ≠ g ∨ ks = [] := by
                 by_cases e : ks = []
                 · exact .inr e
                 · exact .inl (h3 e)
               exact (hoth q (by omega) n1 n2).trans ((HG3.out.block q (by omega) (fun e => by injection e with e; omega)).trans (HB2.out.block q (by omega)))
             have hb1 := HT.out
             have hturn : Turn lo hi w wr := by
               refine ⟨⟨?_, ?_, ?_, by omega, fun q hq => ?_⟩, fun q h1 h2 => ?_⟩
               · exact hB0.os.trans (HG3.out.os.trans (HB2.out.os.trans hb1.1.os))
               · exact hB0.tape.trans (HG3.out.tape.trans (HB2.out.tape.trans hb1.1.tape))
               · exact hB0.output.trans (HG3.out.output.trans (HB2.out.output.trans hb1.1.output))
               · exact (hsame q (by omega) (fun h => by have := hgkr h; omega) (fun h => by have := hgr (hvne h); omega)).trans (hb1.1.block q (by omega))
               · exact (hsame q h2 (fun h => by have := hgkr h; omega) (fun h => by have := hgr (hvne h); omega)).trans (hb1.2 q h1 h2)
             have hkeep : ∀ (j : Nat) (x : Val), vs[j]? = some x → HoldP (fun q => lo ≤ q ∧ q < hi) wr (fr j).cells (sort x) := fun j x hx => by
               have hj2 := (List.getElem?_eq_some_iff.1 hx).1
               have r1 := HBL.out 0 j (Nat.zero_le _) (by omega)
               have r2 := HBL.out (j + 1) vs.length (by omega) (Nat.le_refl _)
               refine HoldP.mono (fun q hq _ => ⟨by omega, by omega⟩) (sort x) (HoldP.keep (w := W1) (by omega) (fun q hq hlt => ?_) (sort x) (HH1.out j x hx))
               exact hsame q (by omega) (fun h => by have := hgkr h; omega) (fun h => by have := hgr (hvne h); omega)
             have hfin : HoldP (fun q => lo ≤ q ∧ q < hi) wr (cellsV k b n s (.slice ak ks.length ck) (.slice a vs.length c)) (sort ⟨k, b, n, s, ks, vs⟩) := by
               have hgb := hb1.1
               by_cases h6 : k = 6
               · subst h6
                 have hl := HN6.out.1 rfl
                 by_cases hne : ks = []
                 · have hv0 : vs = [] := List.length_eq_zero_iff.1 (by rw [← hl, hne]; rfl)
                   subst hne
                   subst hv0
                   exact sorted_none hmk hm
                 · obtain ⟨ha, hg1, hg2, hgB⟩ := hgr (hvne hne)
                   obtain ⟨hak, hk1, hk2, hkB, -⟩ := HK0.out hne
                   have hgl := hgB.lt
                   have hkl := hkB.lt
                   refine sorted_obj (d' := d') hl HND.out hck hmk hc hm hak ha ⟨hk1, by omega⟩ ⟨by omega, by omega⟩ (by omega) (by omega) (by rw [HPM.out.1, HDZ.out]) ?_ HPM.out.2.2 hdn hkeep
                   have := HPM.out.2.1
                   rwa [← HD.out] at this
               · have hk0 := HN6.out.2 h6
                 subst hk0
                 refine sorted_list h6 hmk hc hm (fun hne => ⟨(hgr hne).1, ⟨by have := (hgr hne).2.1; omega, by have := (hgr hne).2.2.1; omega⟩, by have := (hgr hne).2.2.2.lt; omega⟩) fun i x hx => ⟨⟨rfl, fun t ht => ?_⟩, hkeep i x hx⟩
                 have hvn : vs ≠ [] := fun e => by rw [e] at hx; simp at hx
                 obtain ⟨-, hg1, hg2, hgB⟩ := hgr hvn
                 have hgl := hgB.lt
                 rw [← (HKID.out i x hx).1.2 t ht]
                 unfold World.cell?
                 rw [hsame g hgl (fun h => absurd rfl h) (fun h => absurd rfl h), hb1.1.block g hg2]
             have FIN := Lib.hid (show Sorted lo hi (cellsV k b n s (.slice ak ks.length ck) (.slice a vs.length c)) ⟨k, b, n, s, ks, vs⟩ w (.returned (.tuple #[])) wr from ⟨rfl, hfin, hturn⟩)
             clear hfin hturn hkeep hsame hoth hdn hbg hm0 hB0
             go_wp2_with fail
             go_end0
             exact FIN.out
end Go.Proofs.YtlfbnfphocpgeaaGreatDoor.Tre
namespace Go.Proofs.YtlfbnfphocpgeaaGreatDoor.Tre
open Go.RowKit Kit Txt
open Num (Dec zero)
set_option maxRecDepth 100000 in
set_option maxHeartbeats 8000000 in
theorem tsort_of {w : World} (ho : Utf.Laid w) {v : Val} {u : Value} (hm : Mild v) (hc : count v < 1000000) (h : HoldV w u v) : Calls Tryz.prog 32 #[u] w fun e w' => (∃ y, e = .returned y ∧ (Right v → HoldV w' y (sort v)) ∧ (¬ Right v → HoldV w' y v)) ∧ Below w.heap.size w w' := by
 have hcopy := fun (wx : World) (hb : Below w.heap.size w wx) => tcopy_of v hm hc wx u (h.below hb)
 have hright := fun (wx : World) (hb : Below w.heap.size w wx) => tright_of hm (ho.below hb ho.lt) (h.below hb)
 have hso := sortobj_any v hc
 obtain ⟨pk, ck, a, c, rfl⟩ := holdV_form h
 have hA := new_of (World.alloc_heap_new w (.cells #[.int .i64 v.kind, .bool v.is, .bool v.num.neg, .string (txt v.num.dig), .int .i64 v.num.exp, .string (txt v.str), .slice pk v.keys.length ck, .slice a v.kids.length c] 29)) (.cells #[.int .i64 0, .bool false, .bool false, .string ⟨#[]⟩, .int .i64 0, .string ⟨#[]⟩, .slice none 0 0, .slice none 0 0] 29)
 have hB := World.alloc_heap_new (w.alloc (.cells #[.int .i64 v.kind, .bool v.is, .bool v.num.neg, .string (txt v.num.dig), .int .i64 v.num.exp, .string (txt v.str), .slice pk v.keys.length ck, .slice a v.kids.length c] 29)) (.cells #[.int .i64 0, .bool false, .bool false, .string ⟨#[]⟩, .int .i64 0, .string ⟨#[]⟩, .slice none 0 0, .slice none 0 0] 29)
 rw [World.size_alloc] at hB
 obtain ⟨w0, hw0⟩ : ∃ w0, (w.alloc (.cells #[.int .i64 v.kind, .bool v.is, .bool v.num.neg, .string (txt v.num.dig), .int .i64 v.num.exp, .string (txt v.str), .slice pk v.keys.length ck, .slice a v.kids.length c] 29)).alloc (.cells #[.int .i64 0, .bool false, .bool false, .string ⟨#[]⟩, .int .i64 0, .string ⟨#[]⟩, .slice none 0 0, .slice none 0 0] 29) = w0 := ⟨_, rfl⟩
 have b0 : Below w.heap.size w w0 := by
   rw [← hw0]
   exact ((Below.refl _ w).alloc (Nat.le_refl _) _).alloc (by simp) _
 have z0 : w0.heap.size = w.heap.size + 2 := by rw [← hw0]; simp
 rw [hw0] at hA hB
 have hform := fun (w' : World) (cs : List Value) (lo hi : Nat) (hs : Sep w' lo hi cs v) => holdV_form (v := v) ⟨cs, rfl, HoldP.hold v (Sep.holdP v hs)⟩
 have HF := Lib.hid hform
 have HC := Lib.hid (hcopy w0 b0)
 have HR := Lib.hid hright
 have HS := Lib.hid hso
 have hrw : Right v → Whole v := fun h => h.2
 generalize Right v = q at *
 have HRW := Lib.hid hrw
 clear hcopy hright hso hform h hrw
 generalize hk0 : v.kind = k0 at *
 generalize hi0 : v.is = i0 at *
 generalize hn0 : v.num = n0 at *
 generalize hs0 : v.str = s0 at *
 generalize hlk0 : v.keys.length = lk0 at *
 generalize hlv0 : v.kids.length = lv0 at *
 have HEQ := Lib.hid (And.intro hk0 (And.intro hi0 (And.intro hn0 (And.intro hs0 (And.intro hlk0 hlv0)))))
 clear hk0 hi0 hn0 hs0 hlk0 hlv0
 obtain ⟨c0, c1, c2', c3, c4, c5, c6, c7⟩ := eight hA
 go_enter Tryz.func32, Tryz.ntmps32
 go_wp2_with fail
 clear hw0
 refine HC.out.mono ?_
 rintro e w1 ⟨⟨cs, rfl, hsep⟩, k1⟩
 have b1 := b0.trans (k1.mono b0.size)
 have hA1 := (k1.block _ (lt_of_heap hA)).trans hA
 have hB1 := (k1.block _ (lt_of_heap hB)).trans hB
 obtain ⟨pk2, ck2, a2, c2, he⟩ := HF.out w1 cs _ _ hsep
 injection he with he
 have he2 : cs = [.int .i64 k0, .bool i0, .bool n0.neg, .string (txt n0.dig), .int .i64 n0.exp, .string (txt s0), .slice pk2 lk0 ck2, .slice a2 lv0 c2] := by simpa using congrArg Array.toList he
 subst he2
 clear he HF c0 c1 c2' c3 c4 c5 c6 c7 hA hB HC
 have hX := World.alloc_heap_new w1 (.cells #[.int .i64 k0, .bool i0, .bool n0.neg, .string (txt n0.dig), .int .i64 n0.exp, .string (txt s0), .slice pk2 lk0 ck2, .slice a2 lv0 c2] 29)
 have hA2 := new_of hA1 (.cells #[.int .i64 k0, .bool i0, .bool n0.neg, .string (txt n0.dig), .int .i64 n0.exp, .string (txt s0), .slice pk2 lk0 ck2, .slice a2 lv0 c2] 29)
 have hB2 := new_of hB1 (.cells #[.int .i64 k0, .bool i0, .bool n0.neg, .string (txt n0.dig), .int .i64 n0.exp, .string (txt s0), .slice pk2 lk0 ck2, .slice a2 lv0 c2] 29)
 obtain ⟨w2, hw2⟩ : ∃ w2, w1.alloc (.cells #[.int .i64 k0, .bool i0, .bool n0.neg, .string (txt n0.dig), .int .i64 n0.exp, .string (txt s0), .slice pk2 lk0 ck2, .slice a2 lv0 c2] 29) = w2 := ⟨_, rfl⟩
 have k2 : Below w1.heap.size w1 w2 := by
   rw [← hw2]
   exact (Below.refl _ w1).alloc (Nat.le_refl _) _
 have z2 : w2.heap.size = w1.heap.size + 1 := by rw [← hw2]; simp
 rw [hw2] at hX hA2 hB2
 have b2 := b1.trans (k2.mono b1.size)
 have HR2 := Lib.hid (HR.out w2 b2)
 have HSEP := Lib.hid hsep
 clear hsep HR
 obtain ⟨c0, c1, c2', c3, c4, c5, c6, c7⟩ := eight hA2
 go_wp2_with fail
 clear hw2
 refine HR2.out.mono ?_
 rintro e w3 ⟨⟨r, rfl, hr⟩, k3⟩
 have z3 := k3.size
 have z1 := k1.size
 have b3 := b2.trans (k3.mono b2.size)
 have hB3 := (k3.block _ (lt_of_heap hB2)).trans hB2
 have hX3 := (k3.block _ (lt_of_heap hX)).trans hX
 have hS3 : Sep w3 w0.heap.size w1.heap.size [.int .i64 k0, .bool i0, .bool n0.neg, .string (txt n0.dig), .int .i64 n0.exp, .string (txt s0), .slice pk2 lk0 ck2, .slice a2 lv0 c2] v := Sep.keep v (fun q _ h2 => (k3.block q (by omega)).trans (k2.block q h2)) HSEP.out
 have HS3 := Lib.hid hS3
 clear hS3 c0 c1 c2' c3 c4 c5 c6 c7 hA1 hA2 hB1 hB2 HR2 HSEP
 cases r with
 | true =>
   have hq : q := hr.1 rfl
   have hcall := HS.out (HRW.out hq) w3 w0.heap.size w1.heap.size _ HS3.out z1 (by omega)
   have HCALL := Lib.hid (show Calls Tryz.prog 54 #[.agg #[.int .i64 k0, .bool i0, .bool n0.neg, .string (txt n0.dig), .int .i64 n0.exp, .string (txt s0), .slice pk2 lk0 ck2, .slice a2 lv0 c2]] w3 (Sorted w0.heap.size w1.heap.size [.int .i64 k0, .bool i0, .bool n0.neg, .string (txt n0.dig), .int .i64 n0.exp, .string (txt s0), .slice pk2 lk0 ck2, .slice a2 lv0 c2] v w3) from hcall)
   have HQ := Lib.hid hq
   clear hcall hr hq
   obtain ⟨c0, c1, c2', c3, c4, c5, c6, c7⟩ := eight hX3
   go_wp2_with fail
   refine HCALL.out.mono ?_
   rintro e w4 ⟨rfl, hH, hT⟩
   have z4 := hT.1.size
   have b4 : Below w.heap.size w w4 := b3.trans (hT.1.mono (by omega))
   have hB4 := (hT.1.block _ (by omega)).trans hB3
   have hX4 := (hT.2 w1.heap.size (Nat.le_refl _) (by omega)).trans hX3
   have hV : HoldV w4 (.agg #[.int .i64 k0, .bool i0, .bool n0.neg, .string (txt n0.dig), .int .i64 n0.exp, .string (txt s0), .slice pk2 lk0 ck2, .slice a2 lv0 c2]) (sort v) := ⟨_, rfl, HoldP.hold _ hH⟩
   have hfin : (∃ y, Ending.returned (.agg #[.int .i64 k0, .bool i0, .bool n0.neg, .string (txt n0.dig), .int .i64 n0.exp, .string (txt s0), .slice pk2 lk0 ck2, .slice a2 lv0 c2]) = .returned y ∧ (q → HoldV (put8 w4 (w.heap.size + 1) 0 (.int .i64 k0) (.bool i0) (.bool n0.neg) (.string (txt n0.dig)) (.int .i64 n0.exp) (.string (txt s0)) (.slice pk2 lk0 ck2) (.slice a2 lv0 c2)) y (sort v)) ∧ (¬ q → HoldV (put8 w4 (w.heap.size + 1) 0 (.int .i64 k0) (.bool i0) (.bool n0.neg) (.string (txt n0.dig)) (.int .i64 n0.exp) (.string (txt s0)) (.slice pk2 lk0 ck2) (.slice a2 lv0 c2)) y v)) ∧ Below w.heap.size w (put8 w4 (w.heap.size + 1) 0 (.int .i64 k0) (.bool i0) (.bool n0.neg) (.string (txt n0.dig)) (.int .i64 n0.exp) (.string (txt s0)) (.slice pk2 lk0 ck2) (.slice a2 lv0 c2)) :=
     ⟨⟨_, rfl, fun _ => ⟨_, rfl, HoldP.hold _ (HoldP.keep (by rw [put8_size]; exact Nat.le_refl _) (fun q' hq' _ => put8_block (by omega) _ _ _ _ _ _ _ _) _ hH)⟩, fun h => absurd HQ.out h⟩, put8_below b4 (by omega) _ _ _ _ _ _ _ _ _⟩
   have h9 := set8_own hB4 (.int .i64 k0) (.bool i0) (.bool n0.neg) (.string (txt n0.dig)) (.int .i64 n0.exp) (.string (txt s0)) (.slice pk2 lk0 ck2) (.slice a2 lv0 c2)
   unfold put8 at hfin
   have FIN := Lib.hid hfin
   have H9 := Lib.hid h9
   clear hfin h9 hV hH hT c0 c1 c2' c3 c4 c5 c6 c7
   obtain ⟨c0, c1, c2', c3, c4, c5, c6, c7⟩ := eight hX4
   obtain ⟨d0, d1, d2, d3, d4, d5, d6, d7⟩ := eight hB4
   have g0 := free_of hB4 0
   have g1 := free_of hB4 1
   have g2 := free_of hB4 2
   have g3 := free_of hB4 3
   have g4 := free_of hB4 4
   have g5 := free_of hB4 5
   have g6 := free_of hB4 6
   have g7 := free_of hB4 7
   go_wp2_with fail
   obtain ⟨d0, d1, d2, d3, d4, d5, d6, d7⟩ := eight H9.out
   refine bodyPost_ret (v := .agg #[.int .i64 k0, .bool i0, .bool n0.neg, .string (txt n0.dig), .int .i64 n0.exp, .string (txt s0), .slice pk2 lk0 ck2, .slice a2 lv0 c2]) (by simp [results, Tryz.results32, go_sem, d0, d1, d2, d3, d4, d5, d6, d7]) rfl ?_
   exact FIN.out
 | false =>
   have hq : ¬ q := fun h => absurd (hr.2 h) (by decide)
   have HQ := Lib.hid hq
   clear hr hq
   have hfin : (∃ y, Ending.returned (.agg #[.int .i64 k0, .bool i0, .bool n0.neg, .string (txt n0.dig), .int .i64 n0.exp, .string (txt s0), .slice pk2 lk0 ck2, .slice a2 lv0 c2]) = .returned y ∧ (q → HoldV (put8 w3 (w.heap.size + 1) 0 (.int .i64 k0) (.bool i0) (.bool n0.neg) (.string (txt n0.dig)) (.int .i64 n0.exp) (.string (txt s0)) (.slice pk2 lk0 ck2) (.slice a2 lv0 c2)) y (sort v)) ∧ (¬ q → HoldV (put8 w3 (w.heap.size + 1) 0 (.int .i64 k0) (.bool i0) (.bool n0.neg) (.string (txt n0.dig)) (.int .i64 n0.exp) (.string (txt s0)) (.slice pk2 lk0 ck2) (.slice a2 lv0 c2)) y v)) ∧ Below w.heap.size w (put8 w3 (w.heap.size + 1) 0 (.int .i64 k0) (.bool i0) (.bool n0.neg) (.string (txt n0.dig)) (.int .i64 n0.exp) (.string (txt s0)) (.slice pk2 lk0 ck2) (.slice a2 lv0 c2)) :=
     ⟨⟨_, rfl, fun h => absurd h HQ.out, fun _ => ⟨_, rfl, HoldP.hold _ (Sep.holdP v (Sep.keep v (fun q' h1 _ => put8_block (by omega) _ _ _ _ _ _ _ _) HS3.out))⟩⟩, put8_below b3 (by omega) _ _ _ _ _ _ _ _ _⟩
   have h9 := set8_own hB3 (.int .i64 k0) (.bool i0) (.bool n0.neg) (.string (txt n0.dig)) (.int .i64 n0.exp) (.string (txt s0)) (.slice pk2 lk0 ck2) (.slice a2 lv0 c2)
   unfold put8 at hfin
   have FIN := Lib.hid hfin
   have H9 := Lib.hid h9
   clear hfin h9
   obtain ⟨c0, c1, c2', c3, c4, c5, c6, c7⟩ := eight hX3
   obtain ⟨d0, d1, d2, d3, d4, d5, d6, d7⟩ := eight hB3
   have g0 := free_of hB3 0
   have g1 := free_of hB3 1
   have g2 := free_of hB3 2
   have g3 := free_of hB3 3
   have g4 := free_of hB3 4
   have g5 := free_of hB3 5
   have g6 := free_of hB3 6
   have g7 := free_of hB3 7
   go_wp2_with fail
   obtain ⟨d0, d1, d2, d3, d4, d5, d6, d7⟩ := eight H9.out
   refine bodyPost_ret (v := .agg #[.int .i64 k0, .bool i0, .bool n0.neg, .string (txt n0.dig), .int .i64 n0.exp, .string (txt s0), .slice pk2 lk0 ck2, .slice a2 lv0 c2]) (by simp [results, Tryz.results32, go_sem, d0, d1, d2, d3, d4, d5, d6, d7]) rfl ?_
   exact FIN.out
end Go.Proofs.YtlfbnfphocpgeaaGreatDoor.Tre
