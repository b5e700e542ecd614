/- A part of what is_holds leans on (its texts, put together). Nothing is claimed here. -/
import Derived.Test.YtlfbnfphocpgeaaGreatDoorIs39
namespace Go.Proofs.YtlfbnfphocpgeaaGreatDoor.Jdec
open Go.RowKit Kit Txt
open Utf (nb)
def TellF (n : Nat) (g : Got (List UInt8)) (e : Ending) : Prop :=
 ∃ (t : ByteArray) (a p k : Int), e = .returned (.agg #[.int .i64 0, .bool false, .bool false, .string ⟨#[]⟩, .int .i64 0, .string t, .slice none 0 0, .slice none 0 0, .int .i64 a, .int .i64 p, .int .i64 k]) ∧
   ((∃ x r, g = .ok x r ∧ t = txt x ∧ a = ((n - r.length : Nat) : Int) ∧ k = 0) ∨ ((∃ r j, g = .no r j) ∧ k ≠ 0))
theorem TellF.bad {n j : Nat} {g : Got (List UInt8)} {r : List UInt8} (h : g = .no r j) {p k : Int} (hk : k ≠ 0) : TellF n g (.returned (badV p k)) := ⟨_, _, _, _, rfl, .inr ⟨⟨r, j, h⟩, hk⟩⟩
def KeysAt (w : World) (u : Value) (keys : List (List UInt8)) : Prop := ∃ (a : Option Addr) (c : Nat), u = .slice a keys.length c ∧ (keys = [] ∨ ∃ g off, a = some ⟨g, off, none⟩ ∧ g < w.heap.size ∧ ∀ (i : Nat) (x : List UInt8), keys[i]? = some x → w.cell? ⟨g, off + i, none⟩ = some (.string (txt x)))
theorem field_no {keys : List (List UInt8)} {l : List UInt8} {q : Nat} (h : nb l q ≠ 34) : ∃ r j, field keys (l.drop q) = .no r j := by
 unfold field
 rw [if_pos (fun e => h ((Quo.head_nb l q).1 e))]
 unfold here
 split
 · exact ⟨_, _, rfl⟩
 · exact ⟨_, _, rfl⟩
theorem head_at (l : List UInt8) (q : Nat) (c : UInt8) (hc : c.toNat ≠ 0) : (l.drop q).head? = some c ↔ nb l q = c.toNat := by
 by_cases h : q < l.length
 · rw [List.drop_eq_getElem_cons h, nb_get h]
   simp only [List.head?_cons, Option.some.injEq]
   exact ⟨fun e => by rw [e], fun e => UInt8.toNat_inj.1 e⟩
 · rw [List.drop_eq_nil_of_le (by omega), nb_past (by omega)]
   simp
   exact fun e => hc e.symm
theorem field_on {keys : List (List UInt8)} {l : List UInt8} {q : Nat} (h : nb l q = 34) : field keys (l.drop q) = if (Quo.scan (l.drop q)).e ≠ 0 then .no (l.drop q) (Quo.scan (l.drop q)).e
   else if (Quo.scan (l.drop q)).s ∈ keys then .no (l.drop q) 6
   else if nb l (skipAt l (q + (Quo.scan (l.drop q)).size)) ≠ 58 then here (l.drop (skipAt l (q + (Quo.scan (l.drop q)).size)))
   else .ok (Quo.scan (l.drop q)).s (l.drop (skipAt l (skipAt l (q + (Quo.scan (l.drop q)).size) + 1))) := by
 unfold field
 rw [if_neg (by simpa using (Quo.head_nb l q).2 h), List.drop_drop, ← skipAt_drop, skipAt_drop]
 have e := head_at l (skipAt l (q + (Quo.scan (l.drop q)).size)) 58 (by decide)
 rw [← skipAt_drop, List.tail_drop, ← skipAt_drop]
 simp only [ne_eq, e]
 rfl
theorem keep11 {W : World} {g pb : Nat} {x : Value} (hne : pb ≠ g) (h : W.cell? ⟨pb, 0, none⟩ = some x) {v0 v1 v2 v3 v4 v5 v6 v7 v8 v9 v10 : Value} :
   (((((((((((W.setCell ⟨g, 0, none⟩ v0).setCell ⟨g, 1, none⟩ v1).setCell ⟨g, 2, none⟩ v2).setCell ⟨g, 3, none⟩ v3).setCell ⟨g, 4, none⟩ v4).setCell ⟨g, 5, none⟩ v5).setCell ⟨g, 6, none⟩ v6).setCell ⟨g, 7, none⟩ v7).setCell ⟨g, 8, none⟩ v8).setCell ⟨g, 9, none⟩ v9).setCell ⟨g, 10, none⟩ v10).cell? ⟨pb, 0, none⟩ = some x := by
 have ne : ∀ k, (⟨g, k, none⟩ : Addr) ≠ ⟨pb, 0, none⟩ := fun k e => by
   injection e with e _ _
   exact hne e.symm
 rw [World.cell?_setCell_other _ _ _ _ (ne 10), World.cell?_setCell_other _ _ _ _ (ne 9), World.cell?_setCell_other _ _ _ _ (ne 8), World.cell?_setCell_other _ _ _ _ (ne 7), World.cell?_setCell_other _ _ _ _ (ne 6), World.cell?_setCell_other _ _ _ _ (ne 5), World.cell?_setCell_other _ _ _ _ (ne 4), World.cell?_setCell_other _ _ _ _ (ne 3), World.cell?_setCell_other _ _ _ _ (ne 2), World.cell?_setCell_other _ _ _ _ (ne 1), World.cell?_setCell_other _ _ _ _ (ne 0)]
 exact h
set_option maxRecDepth 100000 in
set_option maxHeartbeats 2000000 in
theorem rfield_tells {w : World} {l : List UInt8} {q : Nat} {u : Value} {keys : List (List UInt8)} (hl : l.length < 100000) (hq : q ≤ l.length) (hkl : keys.length < 1000000) (hK : KeysAt w u keys) :
   Calls Tryz.prog 60 #[.string (txt l), .int .i64 q, u] w fun e w' => TellF l.length (field keys (l.drop q)) e ∧ Below w.heap.size w w' := by
 have hs := txt_size l
 have hA := World.alloc_heap_new w (.cells #[.int .i64 0, .bool false, .bool false, .string ⟨#[]⟩, .int .i64 0, .string ⟨#[]⟩, .slice none 0 0, .slice none 0 0, .int .i64 0, .int .i64 0, .int .i64 0] 31)
 have bA : Below w.heap.size w (w.alloc (.cells #[.int .i64 0, .bool false, .bool false, .string ⟨#[]⟩, .int .i64 0, .string ⟨#[]⟩, .slice none 0 0, .slice none 0 0, .int .i64 0, .int .i64 0, .int .i64 0] 31)) := (Below.refl _ w).alloc (Nat.le_refl _) _
 by_cases h34 : nb l q = 34
 · have hlt : q < l.length := nb_ne h34 (by decide)
   have g1 : ¬ ((l.length : Int) ≤ (q : Int)) := by omega
   have g2 : decide (l.length ≤ q) = false := decide_eq_false (by omega)
   have hix := idx hlt
   rw [h34] at hix
   have hsl := slL (l := l) (z := (q : Int)) (k := q) rfl hq
   have hfo := field_on (keys := keys) h34
   have hsc := fun (wx : World) => Quo.rscan_any (w := wx) (l := l.drop q) (by rw [List.length_drop]; omega)
   have hsz : (Quo.scan (l.drop q)).e = 0 → (Quo.scan (l.drop q)).size ≤ l.length - q := fun h => by
     have := (scan_ok h).2.2
     rwa [List.length_drop] at this
   have hb := fun (wx : World) (x : Int) => rbad_any (w := wx) (p := q) (e := x)
   simp only [badV] at hb
   unfold Quo.partV at hsc
   generalize field keys (l.drop q) = gg at *
   generalize Quo.scan (l.drop q) = P at *
   generalize l.drop q = t at *
   obtain ⟨ps, pn, pe⟩ := P
   dsimp only at hfo hsc hsz
   by_cases he : pe = 0
   · subst he
     rw [if_neg (by simp)] at hfo
     have hpn := hsz rfl
     obtain ⟨a, cc, rfl, hKK⟩ := hK
     generalize hkn : keys.length = kn at *
     have hbl := fun (wx : World) (i : Nat) (hi : i ≤ l.length) => rblanks_any (w := wx) (l := l) (i := i) hl hi
     have hqp : IntKind.i64.wrap ((q : Int) + (pn : Int)) = (q : Int) + (pn : Int) := by simp only [IntKind.wrap, IntKind.signed, IntKind.bits]; simp; omega
     have hbl1 : ∀ wx : World, Calls Tryz.prog 23 #[.string (txt l), .int .i64 ((q : Int) + (pn : Int))] wx fun e w' => e = .returned (.int .i64 (skipAt l (q + pn))) ∧ w' = wx := fun wx => by
       have := hbl wx (q + pn) (by omega)
       rwa [Int.natCast_add] at this
     have hzl := skipAt_le l (q + pn)
     generalize skipAt l (q + pn) = z at *
     have HFO := Lib.hid hfo
     have HKN := Lib.hid hkn
     have HKK := Lib.hid hKK
     clear hfo hsz hkn hKK
     go_enter Tryz.func60, Tryz.ntmps60
     go_wp2_with fail
     refine (hsc _).mono ?_
     rintro e w2 ⟨rfl, k2⟩
     have hA2 := new_of ((k2.block _ (lt_of_heap hA)).trans hA) (.cells #[.string (txt ps), .int .i64 pn, .int .i64 0] 77)
     have b2 := (bA.trans (k2.mono bA.size)).alloc (bA.trans (k2.mono bA.size)).size (.cells #[.string (txt ps), .int .i64 pn, .int .i64 0] 77)
     have hN := World.alloc_heap_new w2 (.cells #[.string (txt ps), .int .i64 pn, .int .i64 0] 77)
     have hPz := lt_of_heap ((k2.block _ (lt_of_heap hA)).trans hA)
     have HA2 := Lib.hid hA2
     have HB2 := Lib.hid b2
     have HN2 := Lib.hid hN
     clear hA hA2 hN k2 b2 bA
     go_upto_region 4 with fail
     obtain ⟨W, hW⟩ : ∃ W, w2.alloc (.cells #[.string (txt ps), .int .i64 pn, .int .i64 0] 77) = W := ⟨_, rfl⟩
     have hA2 := HA2.out
     have hN := HN2.out
     have b2 := HB2.out
     clear HA2 HN2 HB2
     rw [hW] at hA2 hN b2
     rw [hW]
     clear hW
     obtain ⟨n0, n1, n2⟩ := three hN
     generalize w2.heap.size = pb at *
     have HA2 := Lib.hid hA2
     have HB2 := Lib.hid b2
     have HN := Lib.hid hN
     clear hA2 b2 hN
     go_upto_region 7 with fail
     go_loopw [8] (fun s wr => ∃ j : Nat, s = .int .i64 j ∧ j ≤ kn ∧ (∀ i, i < j → keys[i]? ≠ some ps) ∧ Below W.heap.size W wr) (fun s _ => kn - (intOf s).toNat)
     case atStart => exact ⟨0, rfl, Nat.zero_le _, fun i hi => absurd hi (Nat.not_lt_zero _), Below.refl _ _⟩
     case round =>
       clear n0 n1 n2
       obtain ⟨j, rfl, hj, hno, bW⟩ := hrel
       have hN := (bW.block _ (lt_of_heap HN.out)).trans HN.out
       obtain ⟨n0, n1, n2⟩ := three hN
       have hA3 := (bW.block _ (lt_of_heap HA2.out)).trans HA2.out
       have b3 := HB2.out.trans (bW.mono HB2.out.size)
       have HA3 := Lib.hid hA3
       have HB3 := Lib.hid b3
       have HNO := Lib.hid hno
       clear hN hA3 b3 hno
       by_cases hjk : j < kn
       · have hjd : decide (j < kn) = true := decide_eq_true hjk
         have hjd' : (j : Int) < (kn : Int) := by omega
         have hwj : IntKind.i64.wrap ((j : Int) + 1) = (j : Int) + 1 := by simp only [IntKind.wrap, IntKind.signed, IntKind.bits]; simp; omega
         rcases HKK.out with hnil | ⟨g, off, rfl, hg, hcell⟩
         · have := HKN.out
           rw [hnil] at this
           simp at this
           omega
         obtain ⟨x, hx⟩ : ∃ x, keys[j]? = some x := ⟨_, List.getElem?_eq_getElem (by have := HKN.out; omega)⟩
         have hc := (HB3.out.cell (p := ⟨g, off + j, none⟩) hg).trans (hcell j x hx)
         have HX := Lib.hid hx
         have hgl : g < wr.heap.size := Nat.lt_of_lt_of_le hg HB3.out.size
         clear hcell hx
         by_cases hxp : x = ps
         · subst hxp
           have fin : ∀ p : Int, TellF l.length gg (.returned (badV p 6)) := fun p => .bad (r := t) (j := 6) (by rw [HFO.out, if_pos (List.mem_of_getElem? HX.out)]) (by decide)
           have HF := Lib.hid fin
           clear fin
           go_wp2_with fail
           go_quiet (fail)
           have hA4 := ((below_drewN (Below.refl _ _) nq).block _ (lt_of_heap HA3.out)).trans HA3.out
           have b4 := below_drewN HB3.out nq
           clear n0 n1 n2 hc
           generalize wr.drewN nq = W4 at *
           go_wp2_with fail
           refine (hb _ 6).mono ?_
           rintro e w5 ⟨rfl, k5⟩
           have hA5 := (k5.block _ (lt_of_heap hA4)).trans hA4
           have b5 := b4.trans (k5.mono b4.size)
           have h9 := set11 hA5 (.int .i64 0) (.bool false) (.bool false) (.string ⟨#[]⟩) (.int .i64 0) (.string ⟨#[]⟩) (.slice none 0 0) (.slice none 0 0) (.int .i64 0) (.int .i64 q) (.int .i64 6)
           have b9 := below11 b5 (Nat.le_refl _) (.int .i64 0) (.bool false) (.bool false) (.string ⟨#[]⟩) (.int .i64 0) (.string ⟨#[]⟩) (.slice none 0 0) (.slice none 0 0) (.int .i64 0) (.int .i64 q) (.int .i64 6)
           obtain ⟨d0, d1, d2, d3, d4, d5, d6, d7, d8, d9, d10⟩ := eleven h9
           obtain ⟨c0, c1, c2, c3, c4, c5, c6, c7, c8, c9, c10⟩ := eleven hA5
           have qf := free_of hA5
           clear h9 hA4 hA5 k5 b4 b5
           go_wp2_with fail
           refine bodyPost_ret (v := badV q 6) (by simp [results, Tryz.results60, go_sem, badV, d0, d1, d2, d3, d4, d5, d6, d7, d8, d9, d10]) rfl ⟨HF.out _, b9⟩
         · have hne := txt_ne hxp
           go_wp2_with fail
           go_quiet (fail)
           go_wp2_with fail
           go_roundw
           case rel => exact ⟨j + 1, by go_num, by omega, fun i hi => by
             by_cases e : i = j
             · subst e
               rw [HX.out]
               intro e
               injection e with e
               exact hxp e
             · exact HNO.out i (by omega), below_drewN bW _⟩
           case measure => simp [intOf]; omega
       · have hjd : decide (j < kn) = false := decide_eq_false hjk
         have hno : ps ∉ keys := fun hm => by
           obtain ⟨i, hi, e⟩ := List.mem_iff_getElem.1 hm
           exact HNO.out i (by have := HKN.out; omega) (by rw [List.getElem?_eq_getElem hi, e])
         have hfo := HFO.out
         rw [if_neg hno] at hfo
         clear HKN HKK HFO HNO hno
         by_cases h58 : nb l z = 58
         · have hzt : z < l.length := nb_ne h58 (by decide)
           have g3 : ¬ ((l.length : Int) ≤ (z : Int)) := by omega
           have g4 : decide (l.length ≤ z) = false := decide_eq_false (by omega)
           have hiz := idx hzt
           rw [h58] at hiz
           rw [if_neg (by simpa using h58)] at hfo
           have hwz : IntKind.i64.wrap ((z : Int) + 1) = (z : Int) + 1 := by simp only [IntKind.wrap, IntKind.signed, IntKind.bits]; simp; omega
           have hbl2 : ∀ wx : World, Calls Tryz.prog 23 #[.string (txt l), .int .i64 ((z : Int) + 1)] wx fun e w' => e = .returned (.int .i64 (skipAt l (z + 1))) ∧ w' = wx := fun wx => by
             have := hbl wx (z + 1) (by omega)
             rwa [Int.natCast_add] at this
           have hyl := skipAt_le l (z + 1)
           generalize skipAt l (z + 1) = y at *
           have fin : ∀ p : Int, TellF l.length gg (.returned (.agg #[.int .i64 0, .bool false, .bool false, .string ⟨#[]⟩, .int .i64 0, .string (txt ps), .slice none 0 0, .slice none 0 0, .int .i64 y, .int .i64 p, .int .i64 0])) := fun p => ⟨_, _, _, _, rfl, .inl ⟨ps, _, hfo, rfl, by rw [List.length_drop]; omega, rfl⟩⟩
           have HF := Lib.hid fin
           obtain ⟨c0, c1, c2, c3, c4, c5, c6, c7, c8, c9, c10⟩ := eleven HA3.out
           have qf := free_of HA3.out
           clear fin hfo h58
           go_wp2_with fail
           refine (hbl1 _).mono ?_
           rintro e w5 ⟨rfl, rfl⟩
           go_wp2_with fail
           have n0h := n0
           clear hbl hbl1 hsc hb hix hsl g1 g2 hqp hiz g3 g4
           clear n0 n1 n2 c0 c1 c2 c3 c4 c5 c6 c7 c8 c9 c10 qf
           have hcd : w5.drew.cell? ⟨pb, 0, none⟩ = some (.string (txt ps)) := n0h
           go_region_held3 (fun wx => wx.cell? ⟨pb, 0, none⟩ = some (.string (txt ps)))
             (first | with_reducible assumption | exact keep11 (by omega) (by with_reducible assumption) | go_keep)
             (first | (go_at_call 23; refine (hbl2 _).mono ?_; rintro e w6 ⟨rfl, hw6⟩; have hA6 : w6.heap[w.heap.size]? = some (.cells #[.int .i64 0, .bool false, .bool false, .string ⟨#[]⟩, .int .i64 0, .string ⟨#[]⟩, .slice none 0 0, .slice none 0 0, .int .i64 0, .int .i64 0, .int .i64 0] 31 (0, 0)) := (by rw [hw6]; exact HA3.out); have b6 : Below w.heap.size w w6 := (by rw [hw6]; exact below_drewN HB3.out 1); have s6 : w6.cell? ⟨pb, 0, none⟩ = some (.string (txt ps)) := (by rw [hw6]; exact hcd); clear hw6; obtain ⟨c0, c1, c2, c3, c4, c5, c6, c7, c8, c9, c10⟩ := eleven hA6; have qf := free_of hA6; have HA6 := Lib.hid hA6; have HB6 := Lib.hid b6; clear hA6 b6))
           have h9 := set11 HA6.out (.int .i64 0) (.bool false) (.bool false) (.string ⟨#[]⟩) (.int .i64 0) (.string (txt ps)) (.slice none 0 0) (.slice none 0 0) (.int .i64 y) (.int .i64 0) (.int .i64 0)
           have b9 := below11 HB6.out (Nat.le_refl _) (.int .i64 0) (.bool false) (.bool false) (.string ⟨#[]⟩) (.int .i64 0) (.string (txt ps)) (.slice none 0 0) (.slice none 0 0) (.int .i64 y) (.int .i64 0) (.int .i64 0)
           obtain ⟨d0, d1, d2, d3, d4, d5, d6, d7, d8, d9, d10⟩ := eleven h9
           go_wp2_with fail
           refine bodyPost_ret (v := .agg #[.int .i64 0, .bool false, .bool false, .string ⟨#[]⟩, .int .i64 0, .string (txt ps), .slice none 0 0, .slice none 0 0, .int .i64 y, .int .i64 0, .int .i64 0]) (by simp [results, Tryz.results60, go_sem, d0, d1, d2, d3, d4, d5, d6, d7, d8, d9, d10]) rfl ⟨HF.out _, b9⟩
         · have hE : hereE l z ≠ 0 := by unfold hereE; split <;> decide
           have hbh := fun (wx : World) => rhere_any (w := wx) (l := l) (q := z)
           simp only [badV] at hbh
           have hno2 : ∃ r j, gg = .no r j := by
             rw [if_pos (by simpa using h58)] at hfo
             rw [hfo]
             unfold here
             split
             · exact ⟨_, _, rfl⟩
             · exact ⟨_, _, rfl⟩
           obtain ⟨r, j', hno2⟩ := hno2
           have fin : ∀ p : Int, TellF l.length gg (.returned (badV p (hereE l z))) := fun p => .bad hno2 hE
           have HF := Lib.hid fin
           clear fin hno2 hE hfo
           generalize hereE l z = ee at *
           by_cases hzt : z < l.length
           · have g3 : ¬ ((l.length : Int) ≤ (z : Int)) := by omega
             have g4 : decide (l.length ≤ z) = false := decide_eq_false (by omega)
             have hiz := idx hzt
             have g5 : (((nb l z : Nat) : Int) != 58) = true := by simp; omega
             generalize nb l z = x at *
             go_wp2_with fail
             refine (hbl1 _).mono ?_
             rintro e w5 ⟨rfl, rfl⟩
             go_wp2_with fail
             refine (hbh _).mono ?_
             rintro e w6 ⟨rfl, k6⟩
             have hA5 := (k6.block _ (lt_of_heap HA3.out)).trans HA3.out
             have b5 := HB3.out.trans (k6.mono HB3.out.size)
             have h9 := set11 hA5 (.int .i64 0) (.bool false) (.bool false) (.string ⟨#[]⟩) (.int .i64 0) (.string ⟨#[]⟩) (.slice none 0 0) (.slice none 0 0) (.int .i64 0) (.int .i64 z) (.int .i64 ee)
             have b9 := below11 b5 (Nat.le_refl _) (.int .i64 0) (.bool false) (.bool false) (.string ⟨#[]⟩) (.int .i64 0) (.string ⟨#[]⟩) (.slice none 0 0) (.slice none 0 0) (.int .i64 0) (.int .i64 z) (.int .i64 ee)
             obtain ⟨d0, d1, d2, d3, d4, d5, d6, d7, d8, d9, d10⟩ := eleven h9
             obtain ⟨c0, c1, c2, c3, c4, c5, c6, c7, c8, c9, c10⟩ := eleven hA5
             have qf := free_of hA5
             clear h9 hA5 k6 b5 n0 n1 n2
             go_wp2_with fail
             refine bodyPost_ret (v := badV z ee) (by simp [results, Tryz.results60, go_sem, badV, d0, d1, d2, d3, d4, d5, d6, d7, d8, d9, d10]) rfl ⟨HF.out _, b9⟩
           · have g3 : (l.length : Int) ≤ (z : Int) := by omega
             have g4 : decide (l.length ≤ z) = true := decide_eq_true (by omega)
             go_wp2_with fail
             refine (hbl1 _).mono ?_
             rintro e w5 ⟨rfl, rfl⟩
             go_wp2_with fail
             refine (hbh _).mono ?_
             rintro e w6 ⟨rfl, k6⟩
             have hA5 := (k6.block _ (lt_of_heap HA3.out)).trans HA3.out
             have b5 := HB3.out.trans (k6.mono HB3.out.size)
             have h9 := set11 hA5 (.int .i64 0) (.bool false) (.bool false) (.string ⟨#[]⟩) (.int .i64 0) (.string ⟨#[]⟩) (.slice none 0 0) (.slice none 0 0) (.int .i64 0) (.int .i64 z) (.int .i64 ee)
             have b9 := below11 b5 (Nat.le_refl _) (.int .i64 0) (.bool false) (.bool false) (.string ⟨#[]⟩) (.int .i64 0) (.string ⟨#[]⟩) (.slice none 0 0) (.slice none 0 0) (.int .i64 0) (.int .i64 z) (.int .i64 ee)
             obtain ⟨d0, d1, d2, d3, d4, d5, d6, d7, d8, d9, d10⟩ := eleven h9
             obtain ⟨c0, c1, c2, c3, c4, c5, c6, c7, c8, c9, c10⟩ := eleven hA5
             have qf := free_of hA5
             clear h9 hA5 k6 b5 n0 n1 n2
             go_wp2_with fail
             refine bodyPost_ret (v := badV z ee) (by simp [results, Tryz.results60, go_sem, badV, d0, d1, d2, d3, d4, d5, d6, d7, d8, d9, d10]) rfl ⟨HF.out _, b9⟩
   · rw [if_pos he] at hfo
     have he1 : (((pe : Nat) : Int) != 0) = true := by simp; omega
     have fin : ∀ p : Int, TellF l.length gg (.returned (badV p pe)) := fun p => .bad hfo (by omega)
     have HF := Lib.hid fin
     clear fin hfo hsz
     go_enter Tryz.func60, Tryz.ntmps60
     go_wp2_with fail
     refine (hsc _).mono ?_
     rintro e w2 ⟨rfl, k2⟩
     have hA2 := new_of ((k2.block _ (lt_of_heap hA)).trans hA) (.cells #[.string (txt ps), .int .i64 pn, .int .i64 pe] 77)
     have b2 := (bA.trans (k2.mono bA.size)).alloc (bA.trans (k2.mono bA.size)).size (.cells #[.string (txt ps), .int .i64 pn, .int .i64 pe] 77)
     have hN := World.alloc_heap_new w2 (.cells #[.string (txt ps), .int .i64 pn, .int .i64 pe] 77)
     have HA2 := Lib.hid hA2
     have HB2 := Lib.hid b2
     have HN2 := Lib.hid hN
     clear hA hA2 hN k2 b2 bA
     go_upto_region 4 with fail
     obtain ⟨W, hW⟩ : ∃ W, w2.alloc (.cells #[.string (txt ps), .int .i64 pn, .int .i64 pe] 77) = W := ⟨_, rfl⟩
     have hA2 := HA2.out
     have hN := HN2.out
     have b2 := HB2.out
     clear HA2 HN2 HB2
     rw [hW] at hA2 hN b2
     rw [hW]
     clear hW
     obtain ⟨n0, n1, n2⟩ := three hN
     go_wp2_with fail
     refine (hb _ pe).mono ?_
     rintro e w3 ⟨rfl, k3⟩
     have hA3 := (k3.block _ (lt_of_heap hA2)).trans hA2
     have b3 := b2.trans (k3.mono b2.size)
     have h9 := set11 hA3 (.int .i64 0) (.bool false) (.bool false) (.string ⟨#[]⟩) (.int .i64 0) (.string ⟨#[]⟩) (.slice none 0 0) (.slice none 0 0) (.int .i64 0) (.int .i64 q) (.int .i64 pe)
     have b9 := below11 b3 (Nat.le_refl _) (.int .i64 0) (.bool false) (.bool false) (.string ⟨#[]⟩) (.int .i64 0) (.string ⟨#[]⟩) (.slice none 0 0) (.slice none 0 0) (.int .i64 0) (.int .i64 q) (.int .i64 pe)
     obtain ⟨d0, d1, d2, d3, d4, d5, d6, d7, d8, d9, d10⟩ := eleven h9
     obtain ⟨c0, c1, c2, c3, c4, c5, c6, c7, c8, c9, c10⟩ := eleven hA3
     have qf := free_of hA3
     clear h9 hA2 hA3 k3 b3 b2 n0 n1 n2 hN
     go_wp2_with fail
     refine bodyPost_ret (v := badV q pe) (by simp [results, Tryz.results60, go_sem, badV, d0, d1, d2, d3, d4, d5, d6, d7, d8, d9, d10]) rfl ⟨HF.out _, b9⟩
 · obtain ⟨r, j, hno⟩ := field_no (keys := keys) h34
   have hE : hereE l q ≠ 0 := by unfold hereE; split <;> decide
   have hb := fun (wx : World) => rhere_any (w := wx) (l := l) (q := q)
   simp only [badV] at hb
   have fin : ∀ p : Int, TellF l.length (field keys (l.drop q)) (.returned (badV p (hereE l q))) := fun p => .bad hno hE
   have HF := Lib.hid fin
   clear fin hno hE
   generalize hereE l q = ee at *
   generalize field keys (l.drop q) = gg at *
   by_cases hlt : q < l.length
   · have g1 : ¬ ((l.length : Int) ≤ (q : Int)) := by omega
     have g2 : decide (l.length ≤ q) = false := decide_eq_false (by omega)
     have hix := idx hlt
     have g3 : (((nb l q : Nat) : Int) != 34) = true := by simp; omega
     generalize nb l q = x at *
     go_enter Tryz.func60, Tryz.ntmps60
     go_wp2_with fail
     refine (hb _).mono ?_
     rintro e w2 ⟨rfl, k2⟩
     have hA2 := (k2.block _ (lt_of_heap hA)).trans hA
     have b2 := bA.trans (k2.mono bA.size)
     have h9 := set11 hA2 (.int .i64 0) (.bool false) (.bool false) (.string ⟨#[]⟩) (.int .i64 0) (.string ⟨#[]⟩) (.slice none 0 0) (.slice none 0 0) (.int .i64 0) (.int .i64 q) (.int .i64 ee)
     have b9 := below11 b2 (Nat.le_refl _) (.int .i64 0) (.bool false) (.bool false) (.string ⟨#[]⟩) (.int .i64 0) (.string ⟨#[]⟩) (.slice none 0 0) (.slice none 0 0) (.int .i64 0) (.int .i64 q) (.int .i64 ee)
     obtain ⟨d0, d1, d2, d3, d4, d5, d6, d7, d8, d9, d10⟩ := eleven h9
     obtain ⟨c0, c1, c2, c3, c4, c5, c6, c7, c8, c9, c10⟩ := eleven hA2
     have qf := free_of hA2
     clear h9 hA hA2 k2 b2
     go_wp2_with fail
     refine bodyPost_ret (v := badV q ee) (by simp [results, Tryz.results60, go_sem, badV, d0, d1, d2, d3, d4, d5, d6, d7, d8, d9, d10]) rfl ⟨HF.out _, b9⟩
   · have g1 : (l.length : Int) ≤ (q : Int) := by omega
     have g2 : decide (l.length ≤ q) = true := decide_eq_true (by omega)
     go_enter Tryz.func60, Tryz.ntmps60
     go_wp2_with fail
     refine (hb _).mono ?_
     rintro e w2 ⟨rfl, k2⟩
     have hA2 := (k2.block _ (lt_of_heap hA)).trans hA
     have b2 := bA.trans (k2.mono bA.size)
     have h9 := set11 hA2 (.int .i64 0) (.bool false) (.bool false) (.string ⟨#[]⟩) (.int .i64 0) (.string ⟨#[]⟩) (.slice none 0 0) (.slice none 0 0) (.int .i64 0) (.int .i64 q) (.int .i64 ee)
     have b9 := below11 b2 (Nat.le_refl _) (.int .i64 0) (.bool false) (.bool false) (.string ⟨#[]⟩) (.int .i64 0) (.string ⟨#[]⟩) (.slice none 0 0) (.slice none 0 0) (.int .i64 0) (.int .i64 q) (.int .i64 ee)
     obtain ⟨d0, d1, d2, d3, d4, d5, d6, d7, d8, d9, d10⟩ := eleven h9
     obtain ⟨c0, c1, c2, c3, c4, c5, c6, c7, c8, c9, c10⟩ := eleven hA2
     have qf := free_of hA2
     clear h9 hA hA2 k2 b2
     go_wp2_with fail
     refine bodyPost_ret (v := badV q ee) (by simp [results, Tryz.results60, go_sem, badV, d0, d1, d2, d3, d4, d5, d6, d7, d8, d9, d10]) rfl ⟨HF.out _, b9⟩
end Go.Proofs.YtlfbnfphocpgeaaGreatDoor.Jdec
