/- A part of what is_holds leans on (its texts, put together). Nothing is claimed here. -/
import Derived.Test.YtlfbnfphocpgeaaGreatDoorIs10
import Derived.Test.YtlfbnfphocpgeaaGreatDoorIs29
namespace Go.Proofs.YtlfbnfphocpgeaaGreatDoor.Num
open Go.RowKit Kit
set_option maxHeartbeats 8000000 in
set_option maxRecDepth 100000 in
theorem rparse_any {w : World} {l : List UInt8} (hl : l.length < 1000000) :
   Calls Tryz.prog 57 #[.string (txt l)] w fun e w' => e = .returned (parseV (parse l)) ∧ Below w.heap.size w w' := by
 have hs := txt_size l
 have hp : parse l = if l = [] ∨ scan l ≠ l.length then (zero, 3) else norm (decide (nb l 0 = 45)) (mant (mantL l (neg0 l))).2.2 ((mant (mantL l (neg0 l))).2.1 + powOf (expo (l.drop (neg0 l + (mantL l (neg0 l)).length + 1)))) := rfl
 have ht0 : (⟨#[]⟩ : ByteArray) = txt [] := rfl
 have hz := Pair.new w false
 have hzt := Pair.new w true
 have hA := World.alloc_heap_new w (.cells #[.bool false, .string (txt []), .int .i64 0] 25)
 have bA : Below w.heap.size w (w.alloc (.cells #[.bool false, .string (txt []), .int .i64 0] 25)) := (Below.refl _ w).alloc (Nat.le_refl _) _
 have q0 := cell_of hA 0
 have q1 := cell_of hA 1
 have q2 := cell_of hA 2
 by_cases h0 : l = []
 · rw [if_pos (.inl h0)] at hp
   rw [hp]
   subst h0
   simp only [List.length_nil] at hs
   clear hp hz hzt hA
   go_enter Tryz.func57, Tryz.ntmps57
   go_wp2_with fail
   refine bodyPost_ret (v := parseV (zero, 3)) (by simp [results, Tryz.results57, go_sem, parseV, numV, zero, *]) rfl ⟨rfl, bA⟩
 · have hn0 : ((l.length : Int) == 0) = false := by simp [h0]
   have hln := List.length_pos_iff.2 h0
   have hsc := scan_any (w := w.alloc (.cells #[.bool false, .string (txt []), .int .i64 0] 25)) (l := l) (by omega)
   by_cases h1 : scan l = l.length
   · rw [if_neg (by simp [h0, h1])] at hp
     rw [h1] at hsc
     have h1' : ((l.length : Int) != (l.length : Int)) = false := by simp
     have i0 := idx hln
     rw [show ((0 : Nat) : Int) = 0 from rfl] at i0
     have HP := Lib.hid hp
     clear hp hA h1 bA
     go_enter Tryz.func57, Tryz.ntmps57
     go_wp2_with fail
     refine hsc.mono ?_
     rintro e w1 ⟨rfl, rfl⟩
     clear hsc q0 q1 q2
     have z0 := cell_of hz.2.1 0
     have z1 := cell_of hz.2.1 1
     have z2 := cell_of hz.2.1 2
     have zf := free_of hz.2.1
     go_upto_if 23 with fail
     go_cut [5] from 6 (fun i wc => i = .int .i64 (neg0 l) ∧ Pair w wc (decide (nb l 0 = 45)) [] 0)
     case first =>
       by_cases h2 : nb l 0 = 45
       · have hn : neg0 l = 1 := by unfold neg0; rw [if_pos h2]
         have h2' : ((nb l 0 : Int) == 45) = true := by simp; omega
         have hd : decide (nb l 0 = 45) = true := decide_eq_true h2
         have HN := Lib.hid hn
         have HD := Lib.hid hd
         clear hn hd h2 i0
         go_wp2_with fail
         go_meet
         case rel => exact ⟨by rw [HN.out]; rfl, by rw [HD.out]; exact hzt⟩
       · have hn : neg0 l = 0 := by unfold neg0; rw [if_neg h2]
         have h2' : ((nb l 0 : Int) == 45) = false := by simp; omega
         have hd : decide (nb l 0 = 45) = false := decide_eq_false h2
         have HN := Lib.hid hn
         have HD := Lib.hid hd
         clear hn hd h2 i0
         go_wp2_with fail
         go_meet
         case rel => exact ⟨by rw [HN.out]; rfl, by rw [HD.out]; exact hz⟩
     case rest =>
       obtain ⟨rfl, hPr⟩ := hcut
       clear hz hzt z0 z1 z2 zf i0
       obtain ⟨i0, hi0⟩ : ∃ i0, neg0 l = i0 := ⟨_, rfl⟩
       have hi1 : i0 ≤ l.length := by rw [← hi0]; unfold neg0; split <;> omega
       have hp := HP.out
       rw [hi0] at hp ⊢
       obtain ⟨ng, hng⟩ : ∃ ng, decide (nb l 0 = 45) = ng := ⟨_, rfl⟩
       rw [hng] at hp hPr
       have hM : mantL l i0 = (l.drop i0).takeWhile noE := rfl
       obtain ⟨M, hMe⟩ : ∃ M, mantL l i0 = M := ⟨_, rfl⟩
       rw [hMe] at hp hM
       have hMl : i0 + M.length ≤ l.length := by
         have := tw_le noE (l.drop i0)
         rw [← hM, List.length_drop] at this
         omega
       have hMlt : ∀ k, k < M.length → ∃ c : UInt8, M[k]? = some c ∧ nb l (i0 + k) = c.toNat ∧ noE c = true := by
         intro k hk
         rw [hM] at hk
         obtain ⟨h1, h2, h3⟩ := tw_lt noE (l.drop i0) k hk
         refine ⟨(l.drop i0)[k], by rw [hM]; exact h3, ?_, h2⟩
         rw [List.getElem_drop, nb_get]
       have hMend : i0 + M.length < l.length → nb l (i0 + M.length) = 101 ∨ nb l (i0 + M.length) = 69 := by
         intro h
         have h1 : ((l.drop i0).takeWhile noE).length < (l.drop i0).length := by rw [← hM, List.length_drop]; omega
         have h2 := tw_end noE (l.drop i0) h1
         simp only [← hM, List.getElem_drop] at h2
         rw [nb_get h]
         simp only [noE, decide_eq_false_iff_not] at h2
         by_cases e : l[i0 + M.length] = 101
         · left; rw [e]; rfl
         · by_cases e2 : l[i0 + M.length] = 69
           · right; rw [e2]; rfl
           · exact absurd ⟨e, e2⟩ h2
       have hfin : ∀ k, k = M.length → M.take k = M := fun k hk => by rw [hk, List.take_length]
       have HP2 := Lib.hid hp
       have HMt := Lib.hid hMlt
       have HMe := Lib.hid hMend
       clear hp HP hi0 hng hM hMe hMlt hMend
       go_wp2_with fail
       go_loopw [5, 6] (fun i p wr => ∃ (k : Nat) (st : Bool × Int × List UInt8), k ≤ M.length ∧ i = .int .i64 ((i0 + k : Nat) : Int) ∧ p = .bool st.1 ∧ (M.take k).foldl mantStep (false, 0, []) = st ∧ Pair w wr ng st.2.2 st.2.1) (fun i _ _ => l.length - (intOf i).toNat)
       case atStart => exact ⟨0, (false, 0, []), Nat.zero_le _, rfl, rfl, rfl, hPr⟩
       case round =>
         clear hPr
         obtain ⟨k, ⟨pt, e, d⟩, hk, rfl, rfl, hst, hPr⟩ := hrel
         dsimp only at *
         have hsm := mant_small (M.take k)
         rw [hst, List.length_take] at hsm
         dsimp only at hsm
         have z0 := cell_of hPr.2.1 0
         have z1 := cell_of hPr.2.1 1
         have z2 := cell_of hPr.2.1 2
         have zf := free_of hPr.2.1
         by_cases hlt : k < M.length
         · obtain ⟨c, hc, hnb, hnoE⟩ := HMt.out k hlt
           have hstep : (M.take (k + 1)).foldl mantStep (false, 0, []) = mantStep (pt, e, d) c := by
             rw [take_snoc hc, List.foldl_append, hst]
             rfl
           have hlt' : ((i0 + k : Nat) : Int) < (l.length : Int) := by omega
           have hix := idx (l := l) (i := i0 + k) (by omega)
           rw [hnb] at hix
           obtain ⟨j, hj⟩ : ∃ j, i0 + k = j := ⟨_, rfl⟩
           rw [hj] at hix hlt' ⊢
           have hcn : c.toNat < 256 := c.toNat_lt
           have t1 : ((c.toNat : Int) != 101) = true := by
             simp only [noE, decide_eq_true_eq] at hnoE
             simp
             intro e
             exact hnoE.1 (UInt8.toNat_inj.1 (by show c.toNat = 101; omega))
           have t2 : ((c.toNat : Int) != 69) = true := by
             simp only [noE, decide_eq_true_eq] at hnoE
             simp
             intro e
             exact hnoE.2 (UInt8.toNat_inj.1 (by show c.toNat = 69; omega))
           have HS := Lib.hid hstep
           have hM2 : k + 1 ≤ M.length := hlt
           have hjl : j < l.length := by omega
           have hjn : Value.int .i64 ((j : Int) + 1) = Value.int .i64 ((i0 + (k + 1) : Nat) : Int) := by rw [← hj]; go_num
           have HJ := Lib.hid hjn
           have htk : (l.drop j).take (j + 1 - j) = [c] := by
             have e1 : nb l j = c.toNat := by rw [← hj]; exact hnb
             have e2 : l[j] = c := UInt8.toNat_inj.1 (by rw [← nb_get hjl]; exact e1)
             rw [List.drop_eq_getElem_cons hjl, e2, show j + 1 - j = 1 by omega]
             rfl
           clear hstep hst hc hnb hnoE hj hjn
           by_cases c46 : c = 46
           · subst c46
             have t3 : (((46 : UInt8).toNat : Int) == 46) = true := rfl
             go_wp2_with fail
             go_roundw
             case rel => exact ⟨k + 1, (true, e, d), hM2, HJ.out, rfl, by rw [HS.out]; rfl, hPr⟩
             case measure => simp [intOf]; omega
           · have t3 : ((c.toNat : Int) == 46) = false := by
               simp
               intro e
               exact c46 (UInt8.toNat_inj.1 (by show c.toNat = 46; omega))
             have hm : mantStep (pt, e, d) c = (pt, if pt then e - 1 else e, if d ≠ [] ∨ c ≠ 48 then d ++ [c] else d) := by unfold mantStep; rw [if_neg c46]
             have hds := txt_size d
             obtain ⟨f1, g1⟩ := add_lit (a := d) (b := [c]) (c := d ++ [c]) rfl rfl (by omega) (by simp)
             have hsl := fun wx => slM (l := l) (y := (j : Int)) (z := (j : Int) + 1) (i := j) (j := j + 1) rfl (by omega) (by omega) (by omega) wx
             simp only [htk] at hsl
             have w1 : IntKind.i64.wrap (e - 1) = e - 1 := by simp only [IntKind.wrap, IntKind.signed, IntKind.bits]; simp; omega
             cases pt with
             | true =>
               have hPe := hPr.exp (e - 1)
               have y0 := cell_of hPe.2.1 0
               have y1 := cell_of hPe.2.1 1
               have y2 := cell_of hPe.2.1 2
               have yf := free_of hPe.2.1
               have hPd := hPe.drew
               have v0 := cell_of hPd.2.1 0
               have v1 := cell_of hPd.2.1 1
               have v2 := cell_of hPd.2.1 2
               have vf := free_of hPd.2.1
               by_cases hkeep : d ≠ [] ∨ c ≠ 48
               · rw [if_pos hkeep] at hm
                 have HM := Lib.hid hm
                 have hcase : decide (0 < d.length) = true ∨ (decide (0 < d.length) = false ∧ ((c.toNat : Int) != 48) = true) := by
                   by_cases hd : d = []
                   · right
                     refine ⟨by simp [hd], ?_⟩
                     simp
                     intro e
                     rcases hkeep with h | h
                     · exact h hd
                     · exact h (UInt8.toNat_inj.1 (by show c.toNat = 48; omega))
                   · left
                     simpa using List.length_pos_iff.2 hd
                 clear hm hkeep
                 rcases hcase with h | ⟨h, h'⟩
                 all_goals
                   go_upto_region 16 with fail
                   go_region
                   all_goals
                     go_wp2_with fail
                     go_roundw
                     case rel => exact ⟨k + 1, (true, e - 1, d ++ [c]), hM2, HJ.out, rfl, by rw [HS.out, HM.out]; rfl, hPd.dig _⟩
                     case measure => simp [intOf]; omega
               · have h1 : d = [] := by
                   by_cases hd : d = []
                   · exact hd
                   · exact absurd (.inl hd) hkeep
                 have h2 : c = 48 := by
                   by_cases hd : c = 48
                   · exact hd
                   · exact absurd (.inr hd) hkeep
                 subst h1; subst h2
                 rw [if_neg hkeep] at hm
                 have HM := Lib.hid hm
                 clear hm hkeep
                 go_wp2_with fail
                 go_roundw
                 case rel => exact ⟨k + 1, (true, e - 1, []), hM2, HJ.out, rfl, by rw [HS.out, HM.out]; rfl, hPe⟩
                 case measure => simp [intOf]; omega
             | false =>
               have hPd := hPr.drew
               have v0 := cell_of hPd.2.1 0
               have v1 := cell_of hPd.2.1 1
               have v2 := cell_of hPd.2.1 2
               have vf := free_of hPd.2.1
               by_cases hkeep : d ≠ [] ∨ c ≠ 48
               · rw [if_pos hkeep] at hm
                 have HM := Lib.hid hm
                 have hcase : decide (0 < d.length) = true ∨ (decide (0 < d.length) = false ∧ ((c.toNat : Int) != 48) = true) := by
                   by_cases hd : d = []
                   · right
                     refine ⟨by simp [hd], ?_⟩
                     simp
                     intro e
                     rcases hkeep with h | h
                     · exact h hd
                     · exact h (UInt8.toNat_inj.1 (by show c.toNat = 48; omega))
                   · left
                     simpa using List.length_pos_iff.2 hd
                 clear hm hkeep
                 rcases hcase with h | ⟨h, h'⟩
                 all_goals
                   go_upto_region 16 with fail
                   go_region
                   all_goals
                     go_wp2_with fail
                     go_roundw
                     case rel => exact ⟨k + 1, (false, e, d ++ [c]), hM2, HJ.out, rfl, by rw [HS.out, HM.out]; rfl, hPd.dig _⟩
                     case measure => simp [intOf]; omega
               · have h1 : d = [] := by
                   by_cases hd : d = []
                   · exact hd
                   · exact absurd (.inl hd) hkeep
                 have h2 : c = 48 := by
                   by_cases hd : c = 48
                   · exact hd
                   · exact absurd (.inr hd) hkeep
                 subst h1; subst h2
                 rw [if_neg hkeep] at hm
                 have HM := Lib.hid hm
                 clear hm hkeep
                 go_wp2_with fail
                 go_roundw
                 case rel => exact ⟨k + 1, (false, e, []), hM2, HJ.out, rfl, by rw [HS.out, HM.out]; rfl, hPr⟩
                 case measure => simp [intOf]; omega
         · obtain rfl : k = M.length := by omega
           rw [List.take_length] at hst
           have hmant : mant M = (pt, e, d) := hst
           have hp := HP2.out
           rw [hmant] at hp
           obtain ⟨j, hj⟩ : ∃ j, i0 + M.length = j := ⟨_, rfl⟩
           have hend := HMe.out
           rw [hj] at hp hend ⊢
           have hjl : j ≤ l.length := by omega
           have HP3 := Lib.hid hp
           go_upto_region 9 with fail
           go_cut [40] from 25 to 70 (fun c wc => c = .bool false ∧ wr = wc)
           case first =>
             clear hst hmant hp HP3 HP2
             by_cases h : j < l.length
             · have h' : (j : Int) < (l.length : Int) := by omega
               have hix := idx h
               rcases hend h with e1 | e1
               all_goals
                 rw [e1] at hix
                 go_wp2_with fail
                 go_meet
                 case rel => exact ⟨rfl, rfl⟩
             · have h' : decide ((j : Int) < (l.length : Int)) = false := by simp; omega
               go_wp2_with fail
               go_meet
               case rel => exact ⟨rfl, rfl⟩
           case rest =>
             obtain ⟨rfl, rfl⟩ := hcut
             have hX : ∀ k, k < (l.drop (j + 1)).length → ∃ c : UInt8, (l.drop (j + 1))[k]? = some c ∧ j + 1 + k < l.length ∧ nb l (j + 1 + k) = c.toNat := by
               intro k hk
               rw [List.length_drop] at hk
               refine ⟨l[j + 1 + k], ?_, by omega, nb_get (by omega)⟩
               rw [List.getElem?_drop, List.getElem?_eq_getElem (by omega)]
             have hXl : (l.drop (j + 1)).length = l.length - (j + 1) := List.length_drop
             obtain ⟨X, hXe⟩ : ∃ X, l.drop (j + 1) = X := ⟨_, rfl⟩
             have hp := HP3.out
             rw [hXe] at hX hXl hp
             have HP4 := Lib.hid hp
             have HX := Lib.hid hX
             clear HP3 hp hX hXe hst hmant hend hj HP2 HMe HMt z0 z1 z2 zf hlt hfin
             go_wp2_with fail
             go_loopw [5, 7, 8] (fun i b dn wr => ∃ (k : Nat) (st : Nat × Bool), k ≤ X.length ∧ i = .int .i64 ((j + 1 + k : Nat) : Int) ∧ b = .int .i64 st.1 ∧ dn = .bool st.2 ∧ (X.take k).foldl expStep (0, false) = st ∧ Pair w wr ng d e) (fun i _ _ _ => l.length - (intOf i).toNat)
             case atStart => exact ⟨0, (0, false), Nat.zero_le _, by go_num, rfl, rfl, rfl, hPr⟩
             case round =>
               clear hPr
               obtain ⟨k, ⟨b, dn⟩, hk, rfl, rfl, rfl, hst, hPr⟩ := hrel
               dsimp only at *
               have hsm := exp_small (X.take k)
               rw [hst] at hsm
               dsimp only at hsm
               obtain ⟨q, hq⟩ : ∃ q, j + 1 + k = q := ⟨_, rfl⟩
               rw [hq]
               by_cases hlt : k < X.length
               · obtain ⟨c, hc, hql, hnb⟩ := HX.out k hlt
                 have hstep : (X.take (k + 1)).foldl expStep (0, false) = expStep (b, dn) c := by
                   rw [take_snoc hc, List.foldl_append, hst]
                   rfl
                 rw [hq] at hql hnb
                 have hlt' : (q : Int) < (l.length : Int) := by omega
                 have hix := idx (l := l) (i := q) hql
                 have hdc := digit_any (w := wr) (l := l) (i := q) (by omega)
                 have hdd : DigAt l q ↔ dg c = true := by
                   unfold DigAt dg
                   rw [hnb]
                   simp
                 rw [hnb] at hix
                 have hqn : Value.int .i64 ((q : Int) + 1) = Value.int .i64 ((j + 1 + (k + 1) : Nat) : Int) := by rw [← hq]; go_num
                 have HQ := Lib.hid hqn
                 have hcn : c.toNat < 256 := c.toNat_lt
                 have hk1 : k + 1 ≤ X.length := hlt
                 by_cases hd : dg c = true
                 · have hcd := dg_num hd
                   have h45 : c ≠ 45 := by rintro rfl; revert hcd; decide
                   have t45 : ((c.toNat : Int) == 45) = false := by simp; omega
                   rw [decide_eq_true (hdd.2 hd)] at hdc
                   by_cases hb : b < 1000000000
                   · have hb' : (b : Int) < 1000000000 := by omega
                     have he : expStep (b, dn) c = (b * 10 + (c.toNat - 48), dn) := by unfold expStep; rw [if_pos ⟨hd, hb⟩]; simp [h45]
                     have HE := Lib.hid (hstep.trans he)
                     have w1 : IntKind.u8.wrap ((c.toNat : Int) - 48) = (c.toNat : Int) - 48 := by simp only [IntKind.wrap, IntKind.signed, IntKind.bits]; simp; omega
                     obtain ⟨x, hx⟩ : ∃ x, c.toNat - 48 = x := ⟨_, rfl⟩
                     have hxi : (c.toNat : Int) - 48 = (x : Int) := by omega
                     rw [hxi] at w1
                     rw [hx] at HE
                     have hx9 : x < 10 := by omega
                     generalize c.toNat = cn at *
                     clear hstep he hdd hd hst hc hnb hq hqn hx h45
                     go_wp2_with fail
                     refine hdc.mono ?_
                     rintro e2 w2 ⟨rfl, rfl⟩
                     go_wp2_with fail
                     go_roundw
                     case rel => exact ⟨k + 1, (b * 10 + x, dn), hk1, HQ.out, by go_num, rfl, HE.out, hPr⟩
                     case measure => simp [intOf]; omega
                   · have hb' : decide ((b : Int) < 1000000000) = false := by simp; omega
                     have he : expStep (b, dn) c = (b, dn) := by unfold expStep; rw [if_neg (fun e => hb e.2)]; simp [h45]
                     have HE := Lib.hid (hstep.trans he)
                     clear hstep he hdd hd hst hc hnb hq hqn h45
                     generalize c.toNat = cn at *
                     go_wp2_with fail
                     refine hdc.mono ?_
                     rintro e2 w2 ⟨rfl, rfl⟩
                     go_wp2_with fail
                     go_roundw
                     case rel => exact ⟨k + 1, (b, dn), hk1, HQ.out, rfl, rfl, HE.out, hPr⟩
                     case measure => simp [intOf]; omega
                 · rw [decide_eq_false (fun e => hd (hdd.1 e))] at hdc
                   by_cases h45 : c = 45
                   · subst h45
                     have t45 : (((45 : UInt8).toNat : Int) == 45) = true := rfl
                     have he : expStep (b, dn) 45 = (b, true) := by unfold expStep; rw [if_neg (fun e => hd e.1)]; simp
                     have HE := Lib.hid (hstep.trans he)
                     clear hstep he hdd hd hst hc hnb hq hqn
                     go_wp2_with fail
                     refine hdc.mono ?_
                     rintro e2 w2 ⟨rfl, rfl⟩
                     go_wp2_with fail
                     go_roundw
                     case rel => exact ⟨k + 1, (b, true), hk1, HQ.out, rfl, rfl, HE.out, hPr⟩
                     case measure => simp [intOf]; omega
                   · have t45 : ((c.toNat : Int) == 45) = false := by
                       simp
                       intro e
                       exact h45 (UInt8.toNat_inj.1 (by show c.toNat = 45; omega))
                     have he : expStep (b, dn) c = (b, dn) := by unfold expStep; rw [if_neg (fun e => hd e.1)]; simp [h45]
                     have HE := Lib.hid (hstep.trans he)
                     clear hstep he hdd hd hst hc hnb hq hqn
                     generalize c.toNat = cn at *
                     go_wp2_with fail
                     refine hdc.mono ?_
                     rintro e2 w2 ⟨rfl, rfl⟩
                     go_wp2_with fail
                     go_roundw
                     case rel => exact ⟨k + 1, (b, dn), hk1, HQ.out, rfl, rfl, HE.out, hPr⟩
                     case measure => simp [intOf]; omega
               · obtain rfl : k = X.length := by omega
                 rw [List.take_length] at hst
                 have hexp : expo X = (b, dn) := hst
                 have hp := HP4.out
                 rw [hexp] at hp
                 have hlt2 : ¬ (q : Int) < (l.length : Int) := by omega
                 have hlt3 : decide (q < l.length) = false := by simp; omega
                 obtain ⟨E, hE⟩ : ∃ E, e + powOf (b, dn) = E := ⟨_, rfl⟩
                 have hEb : -10001000000 < E ∧ E < 10001000000 := by
                   rw [← hE]
                   unfold powOf
                   dsimp only
                   split <;> omega
                 have hEc : (dn = true ∧ e + -(b : Int) = E) ∨ (dn = false ∧ e + (b : Int) = E) := by
                   rw [← hE]
                   cases dn
                   · right; exact ⟨rfl, rfl⟩
                   · left; exact ⟨rfl, rfl⟩
                 rw [hE] at hp
                 have HP5 := Lib.hid hp
                 clear hp HP4 hst hexp HX hE hq hXl hk hlt
                 have z0 := cell_of hPr.2.1 0
                 have z1 := cell_of hPr.2.1 1
                 have z2 := cell_of hPr.2.1 2
                 have zf := free_of hPr.2.1
                 go_upto_if 98 with fail
                 go_cut [7] from 99 (fun x wc => (∃ y : Int, x = .int .i64 y ∧ e + y = E) ∧ wr = wc)
                 case first =>
                   have w1 : IntKind.i64.wrap (0 - (b : Int)) = -(b : Int) := by simp only [IntKind.wrap, IntKind.signed, IntKind.bits]; simp; omega
                   have w2 : IntKind.i64.wrap (-(b : Int)) = -(b : Int) := by simp only [IntKind.wrap, IntKind.signed, IntKind.bits]; simp; omega
                   rcases hEc with ⟨rfl, h⟩ | ⟨rfl, h⟩
                   all_goals
                     have H := Lib.hid h
                     clear h
                     go_wp2_with fail
                     go_meet
                     case rel => exact ⟨⟨_, by first | rfl | go_num, H.out⟩, rfl⟩
                 case rest =>
                   obtain ⟨⟨y, rfl, hy⟩, rfl⟩ := hcut
                   clear hEc
                   have w1 : IntKind.i64.wrap (e + y) = E := by rw [hy]; simp only [IntKind.wrap, IntKind.signed, IntKind.bits]; simp; omega
                   have hPe := hPr.exp E
                   have HY := Lib.hid hy
                   clear hy
                   go_wp2_with fail
                   go_loopw [130] (fun _ wx => ∃ (d3 : List UInt8) (e3 : Int), strip d3 e3 = strip d E ∧ d3.length ≤ d.length ∧ e3 + d3.length = E + d.length ∧ Pair w wx ng d3 e3) (fun _ wx => dlen (w.heap.size + 1) wx)
                   case atStart => exact ⟨d, E, rfl, Nat.le_refl _, rfl, hPe⟩
                   case round =>
                     clear hPe hPr z0 z1 z2 zf
                     obtain ⟨d3, e3, hst3, hl3, he3, hPr⟩ := hrel
                     have z0 := cell_of hPr.2.1 0
                     have z1 := cell_of hPr.2.1 1
                     have z2 := cell_of hPr.2.1 2
                     have zf := free_of hPr.2.1
                     have hds := txt_size d3
                     by_cases h48 : nb d3 (d3.length - 1) = 48
                     · have hd0 : 0 < d3.length := by
                         by_cases h : d3 = []
                         · subst h; rw [nb_nil] at h48; omega
                         · exact List.length_pos_iff.2 h
                       have hix := idz (l := d3) (z := (d3.length : Int) - 1) (by omega) (by omega)
                       rw [show ((d3.length : Int) - 1).toNat = d3.length - 1 by omega, h48] at hix
                       have hsl := fun wx => slH (l := d3) (z := (d3.length : Int) - 1) (k := d3.length - 1) (by omega) (by omega) wx
                       have hdl : d3.take (d3.length - 1) = d3.dropLast := by rw [List.dropLast_eq_take]
                       rw [hdl] at hsl
                       have hst4 := strip_on h48 e3
                       rw [hst3] at hst4
                       have hlen4 : d3.dropLast.length = d3.length - 1 := List.length_dropLast
                       generalize d3.dropLast = d4 at *
                       have w3 : IntKind.i64.wrap (e3 + 1) = e3 + 1 := by simp only [IntKind.wrap, IntKind.signed, IntKind.bits]; simp; omega
                       have hd0' : decide (0 < d3.length) = true := by simp; omega
                       have hP4 := (hPr.dig d4).exp (e3 + 1)
                       have hln1 := dlen_of z1
                       have hln2 := dlen_of (cell_of hP4.2.1 1)
                       have HS := Lib.hid hst4
                       clear hst3 hst4 h48 hdl
                       go_wp2_with fail
                       go_roundw
                       case rel => exact ⟨d4, e3 + 1, HS.out.symm, by omega, by omega, hP4⟩
                       case measure => rw [hln1, hln2]; omega
                     · have hst4 := strip_stop h48 e3
                       rw [hst3] at hst4
                       have hp := HP5.out
                       unfold norm at hp
                       rw [hst4] at hp
                       have HP6 := Lib.hid hp
                       clear hp HP5 hst3 hst4 HY
                       have q0 := cell_of hPr.1 0
                       have q1 := cell_of hPr.1 1
                       have q2 := cell_of hPr.1 2
                       have qf := free_of hPr.1
                       by_cases hd3 : d3 = []
                       · subst hd3
                         have hp := HP6.out
                         rw [if_pos rfl] at hp
                         have HP7 := Lib.hid hp
                         clear hp HP6 h48
                         simp only [List.length_nil] at hds
                         go_wp2_with fail
                         refine bodyPost_ret (v := parseV (zero, 0)) (by simp [results, Tryz.results57, go_sem, parseV, numV, zero, *]) rfl ⟨by rw [HP7.out], below_set3 hPr.2.2 _ _ _⟩
                       · have hp := HP6.out
                         rw [if_neg hd3] at hp
                         have hln3 := List.length_pos_iff.2 hd3
                         have hd0' : decide (0 < d3.length) = true := by simp; omega
                         have hdn : ((d3.length : Int) == 0) = false := by simp [hd3]
                         have hix := idz (l := d3) (z := (d3.length : Int) - 1) (by omega) (by omega)
                         rw [show ((d3.length : Int) - 1).toNat = d3.length - 1 by omega] at hix
                         have h48' : ((nb d3 (d3.length - 1) : Int) == 48) = false := by simp; omega
                         generalize nb d3 (d3.length - 1) = xx at *
                         have hra := fun wz => right_any (w := wz) (n := ⟨ng, d3, e3⟩) (by show d3.length < _; omega)
                         simp only [numV] at hra
                         by_cases hR : Right ⟨ng, d3, e3⟩
                         · rw [if_pos hR] at hp
                           simp only [decide_eq_true hR] at hra
                           have HP7 := Lib.hid hp
                           clear hp HP6 h48 hR
                           go_wp2_with fail
                           refine (hra _).mono ?_
                           rintro e5 w5 ⟨rfl, k5⟩
                           have hP5 := hPr.step k5
                           have y0 := cell_of hP5.2.1 0
                           have y1 := cell_of hP5.2.1 1
                           have y2 := cell_of hP5.2.1 2
                           have r0 := cell_of hP5.1 0
                           have r1 := cell_of hP5.1 1
                           have r2 := cell_of hP5.1 2
                           have rf := free_of hP5.1
                           have hb5 := hP5.2.2
                           clear hPr q0 q1 q2 qf z0 z1 z2 zf k5 hra hP5
                           go_wp2_with fail
                           refine bodyPost_ret (v := parseV (⟨ng, d3, e3⟩, 0)) (by simp [results, Tryz.results57, go_sem, parseV, numV, *]) rfl ⟨by rw [HP7.out], below_set3 hb5 _ _ _⟩
                         · rw [if_neg hR] at hp
                           simp only [decide_eq_false hR] at hra
                           have HP7 := Lib.hid hp
                           clear hp HP6 h48 hR
                           go_wp2_with fail
                           refine (hra _).mono ?_
                           rintro e5 w5 ⟨rfl, k5⟩
                           have hP5 := hPr.step k5
                           have r0 := cell_of hP5.1 0
                           have r1 := cell_of hP5.1 1
                           have r2 := cell_of hP5.1 2
                           have rf := free_of hP5.1
                           have hb5 := hP5.2.2
                           clear hPr q0 q1 q2 qf z0 z1 z2 zf k5 hra hP5
                           go_wp2_with fail
                           refine bodyPost_ret (v := parseV (zero, 4)) (by simp [results, Tryz.results57, go_sem, parseV, numV, zero, *]) rfl ⟨by rw [HP7.out], below_set3 hb5 _ _ _⟩
   · have h1' : ((scan l : Int) != (l.length : Int)) = true := by simp; omega
     rw [if_pos (.inr h1)] at hp
     rw [hp]
     clear hp hz hzt hA h1
     generalize scan l = sc at *
     go_enter Tryz.func57, Tryz.ntmps57
     go_wp2_with fail
     refine hsc.mono ?_
     rintro e w1 ⟨rfl, rfl⟩
     go_wp2_with fail
     refine bodyPost_ret (v := parseV (zero, 3)) (by simp [results, Tryz.results57, go_sem, parseV, numV, zero, *]) rfl ⟨rfl, bA⟩
end Go.Proofs.YtlfbnfphocpgeaaGreatDoor.Num
