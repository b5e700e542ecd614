/- A part of what is_holds leans on (its texts, put together). Nothing is claimed here. -/
import Derived.Test.YtlfbnfphocpgeaaGreatDoorIs9
namespace Go.Proofs.YtlfbnfphocpgeaaGreatDoor.Quo
open Go.RowKit Kit Txt Utf
theorem scan_nil' : scan [] = err 2 := rfl
theorem scan_no {l : List UInt8} (h0 : 0 < l.length) (h : nb l 0 ≠ 34) : scan l = err 3 := by
 obtain ⟨c, r, rfl⟩ := List.exists_cons_of_ne_nil (List.length_pos_iff.1 h0)
 unfold scan
 dsimp only
 rw [if_pos (by rintro rfl; exact h rfl)]
theorem scan_yes {l : List UInt8} (h : nb l 0 = 34) : scan l = scanF [] 1 (l.drop 1) := by
 obtain ⟨c, r, rfl⟩ := List.exists_cons_of_ne_nil (List.length_pos_iff.1 (nb_ne h (by omega)))
 have hc : c = 34 := UInt8.toNat_inj.1 h
 unfold scan
 dsimp only
 rw [if_neg (by simp [hc])]
 rfl
theorem head_nb (l : List UInt8) (q : Nat) : (l.drop q).head? = some 34 ↔ nb l q = 34 := by
 by_cases h : q < l.length
 · rw [List.drop_eq_getElem_cons h, nb_get h]
   simp only [List.head?_cons, Option.some.injEq]
   exact ⟨fun e => by rw [e]; rfl, fun e => UInt8.toNat_inj.1 e⟩
 · rw [List.drop_eq_nil_of_le (by omega), nb_past (by omega)]
   simp
set_option maxRecDepth 100000 in
set_option maxHeartbeats 8000000 in
theorem rscan_any {w : World} {l : List UInt8} (hl : l.length < 100000) :
   Calls Tryz.prog 38 #[.string (txt l)] w fun e w' => e = .returned (partV (scan l)) ∧ Below w.heap.size w w' := by
 have hs := txt_size l
 have ht0 : (⟨#[]⟩ : ByteArray) = txt [] := rfl
 have hA := World.alloc_heap_new w (.cells #[.string (txt []), .int .i64 0, .int .i64 0] 77)
 have bA : Below w.heap.size w (w.alloc (.cells #[.string (txt []), .int .i64 0, .int .i64 0] 77)) := (Below.refl _ w).alloc (Nat.le_refl _) _
 by_cases h0 : l = []
 · subst h0
   have HC := Lib.hid scan_nil'
   simp only [List.length_nil] at hs
   clear hA bA
   go_enter Tryz.func38, Tryz.ntmps38
   go_wp2_with fail
   refine bodyPost_ret (v := partV (err 2)) (by simp [results, Tryz.results38, go_sem, partV, err, *]) rfl ⟨by rw [HC.out], (Below.refl _ w).alloc (Nat.le_refl _) _⟩
 · have hn := List.length_pos_iff.2 h0
   have hn0 : ((l.length : Int) == 0) = false := by simp [h0]
   have hix := idx hn
   rw [show ((0 : Nat) : Int) = 0 from rfl] at hix
   by_cases h34 : nb l 0 = 34
   · have hsc := scan_yes h34
     have h34' : ((nb l 0 : Int) != 34) = false := by rw [h34]; rfl
     generalize nb l 0 = x at *
     have HS := Lib.hid hsc
     clear hsc h34
     go_enter Tryz.func38, Tryz.ntmps38
     go_wp2_with fail
     go_loopw [3, 4] (fun s a wr => ∃ (S : List UInt8) (q : Nat), s = .string (txt S) ∧ a = .int .i64 q ∧ q ≤ l.length ∧ S.length ≤ 4 * q ∧ scan l = scanF S q (l.drop q) ∧ wr.heap[w.heap.size]? = some (.cells #[.string (txt []), .int .i64 0, .int .i64 0] 77 (0, 0)) ∧ Below w.heap.size w wr) (fun _ a _ => l.length - (intOf a).toNat)
     case atStart => exact ⟨[], 1, by first | rfl | exact ht0 ▸ rfl, rfl, by omega, by simp, HS.out, hA, bA⟩
     case round =>
       clear hA bA HS hix
       obtain ⟨S, q, rfl, rfl, hq, hSl, hsc, hA, bA⟩ := hrel
       have hh := head_nb l q
       have hwq : IntKind.i64.wrap ((q : Int) + 1) = (q : Int) + 1 := by simp only [IntKind.wrap, IntKind.signed, IntKind.bits]; simp; omega
       by_cases he : nb l q = 34
       · have hlt := nb_ne he (by omega)
         have hlt' : (q : Int) < (l.length : Int) := by omega
         have hix := idx hlt
         rw [he] at hix
         rw [scanF_end (hh.2 he)] at hsc
         have HC := Lib.hid hsc
         obtain ⟨q0, q1, q2⟩ := three hA
         have qf := free_of hA
         clear hA hh he hsc
         go_wp2_with fail
         refine bodyPost_ret (v := partV ⟨S, q + 1, 0⟩) (by simp [results, Tryz.results38, go_sem, partV, *]) rfl ⟨by rw [HC.out], below_set3 bA (Nat.le_refl _) _ _ _⟩
       · have hne : (l.drop q).head? ≠ some 34 := fun e => he (hh.1 e)
         have hp := fun wx => part_any (w := wx) (l := l) (i := q) (by omega) (by omega)
         have hok := fun e => part_ok (l := l.drop q) e
         have hon := fun e => scanF_on (s := S) (at' := q) hne e
         have her := fun e => scanF_err (s := S) (at' := q) hne e
         rw [List.length_drop] at hok
         simp only [List.drop_drop] at hon
         generalize part (l.drop q) = p at *
         have hcase : (decide (q < l.length) = true ∧ (q : Int) < (l.length : Int) ∧ (∀ wx : World, (Instr.index 9 (.string (txt l)) (.int .i64 (q : Int))).run Tryz.prog wx = .ok (.int .u8 (nb l q : Int)) wx)) ∨ decide (q < l.length) = false := by
           by_cases h : q < l.length
           · left
             exact ⟨decide_eq_true h, by omega, fun wx => idx h wx⟩
           · right
             exact decide_eq_false h
         have he' : ((nb l q : Int) == 34) = false := by simp; omega
         generalize nb l q = y at *
         by_cases c0 : p.e = 0
         · obtain ⟨cc, hsc1, hps, hsz1, hsz2⟩ := hok c0
           have hel := (enc_len (c := cc)).2
           rw [← hps] at hel
           rw [hon c0] at hsc
           obtain ⟨ps, pz, pe⟩ := p
           dsimp only at c0 hps hsz1 hsz2 hel hsc
           subst c0
           obtain ⟨f1, g1⟩ := add_lit (a := S) (b := ps) (c := S ++ ps) rfl rfl (by omega) (by omega)
           have wz : IntKind.i64.wrap ((q : Int) + (pz : Int)) = (q : Int) + (pz : Int) := by simp only [IntKind.wrap, IntKind.signed, IntKind.bits]; simp; omega
           have HC := Lib.hid hsc
           simp only [partV] at hp
           clear hok hon her hsc hh hne he hps hsc1
           rcases hcase with ⟨d1, d1', hix⟩ | d1
           all_goals
             go_wp2_with fail
             refine (hp _).mono ?_
             rintro e w2 ⟨rfl, k2⟩
             have hA2 := new_of ((k2.block _ (lt_of_heap hA)).trans hA) (.cells #[.string (txt ps), .int .i64 pz, .int .i64 0] 77)
             have b2 := (bA.trans (k2.mono bA.size)).alloc (bA.trans (k2.mono bA.size)).size (.cells #[.string (txt ps), .int .i64 pz, .int .i64 0] 77)
             clear k2
             go_wp2_with fail
             go_roundw
             case rel => exact ⟨S ++ ps, q + pz, rfl, by go_num, by omega, by rw [List.length_append]; omega, HC.out, hA2, b2⟩
             case measure => simp [intOf]; omega
         · rw [her c0] at hsc
           obtain ⟨ps, pz, pe⟩ := p
           dsimp only at c0 hsc
           have c0' : ((pe : Int) != 0) = true := by simp; omega
           have HC := Lib.hid hsc
           simp only [partV] at hp
           clear hok hon her hsc hh hne he
           rcases hcase with ⟨d1, d1', hix⟩ | d1
           all_goals
             go_wp2_with fail
             refine (hp _).mono ?_
             rintro e w2 ⟨rfl, k2⟩
             have hA2 := (k2.block _ (lt_of_heap hA)).trans hA
             have b2 := bA.trans (k2.mono bA.size)
             obtain ⟨q0, q1, q2⟩ := three hA2
             have qf := free_of hA2
             have hlt2 := lt_of_heap hA2
             clear k2
             go_wp2_with fail
             refine bodyPost_ret (v := partV (err pe)) (by simp [results, Tryz.results38, go_sem, partV, err, *]) rfl ⟨by rw [HC.out], (below_set3 b2 (Nat.le_refl _) _ _ _).alloc (below_set3 b2 (Nat.le_refl _) _ _ _).size _⟩
   · have hsc := scan_no hn h34
     have h34' : ((nb l 0 : Int) != 34) = true := by simp; omega
     generalize nb l 0 = x at *
     have HC := Lib.hid hsc
     clear hsc h34 hA bA
     go_enter Tryz.func38, Tryz.ntmps38
     go_wp2_with fail
     refine bodyPost_ret (v := partV (err 3)) (by simp [results, Tryz.results38, go_sem, partV, err, *]) rfl ⟨by rw [HC.out], (Below.refl _ w).alloc (Nat.le_refl _) _⟩
end Go.Proofs.YtlfbnfphocpgeaaGreatDoor.Quo
namespace Go.Proofs.YtlfbnfphocpgeaaGreatDoor.Quo
open Go.RowKit Kit Txt Utf
theorem esc_len (c : UInt8) : (esc c).length ≤ 6 := by
 unfold esc
 split
 · simp
 · split <;> simp
theorem escs_len (l : List UInt8) : (l.flatMap esc).length ≤ 6 * l.length := by
 induction l with
 | nil => simp
 | cons c l ih =>
   rw [List.flatMap_cons, List.length_append, List.length_cons]
   have := esc_len c
   omega
set_option maxRecDepth 100000 in
set_option maxHeartbeats 8000000 in
theorem rprint_any {w : World} {l : List UInt8} (hl : l.length < 1000000) :
   Calls Tryz.prog 71 #[.string (txt l)] w fun e w' => e = .returned (.string (txt (print l))) ∧ Below w.heap.size w w' := by
 have hs := txt_size l
 go_enter Tryz.func71, Tryz.ntmps71
 go_wp2_with fail
 go_loopw [3, 4] (fun o i wr => ∃ k : Nat, k ≤ l.length ∧ o = .string (txt (34 :: (l.take k).flatMap esc)) ∧ i = .int .i64 k ∧ Below w.heap.size w wr) (fun _ i _ => l.length - (intOf i).toNat)
 case atStart => exact ⟨0, Nat.zero_le _, rfl, rfl, Below.refl _ _⟩
 case round =>
   obtain ⟨k, hk, rfl, rfl, bA⟩ := hrel
   have hol : (34 :: (l.take k).flatMap esc).length ≤ 6000001 := by
     have := escs_len (l.take k)
     rw [List.length_take] at this
     rw [List.length_cons]
     omega
   by_cases hlt : k < l.length
   · have hlt' : (k : Int) < (l.length : Int) := by omega
     have hix := idx hlt
     rw [nb_get hlt] at hix
     have htk : l.take (k + 1) = l.take k ++ [l[k]] := List.take_succ_eq_append_getElem hlt
     have hsl := fun wx => slM (l := l) (y := (k : Int)) (z := (k : Int) + 1) (i := k) (j := k + 1) rfl (by omega) (by omega) (by omega) wx
     have hdr : (l.drop k).take (k + 1 - k) = [l[k]] := by
       rw [List.drop_eq_getElem_cons hlt, show k + 1 - k = 1 by omega]
       rfl
     simp only [hdr] at hsl
     have hext : (txt l).extract k (k + 1) = txt [l[k]] := by rw [txt_extract, hdr]
     have hnext : 34 :: (l.take (k + 1)).flatMap esc = (34 :: (l.take k).flatMap esc) ++ esc l[k] := by rw [htk, List.flatMap_append]; simp
     have hsh := fun wx => short_any (w := wx) l[k]
     have hcl : (l[k]).toNat < 256 := (l[k]).toNat_lt
     have wk : IntKind.i64.wrap ((k : Int) + 1) = (k : Int) + 1 := by simp only [IntKind.wrap, IntKind.signed, IntKind.bits]; simp; omega
     obtain ⟨O, hO⟩ : ∃ O, 34 :: (l.take k).flatMap esc = O := ⟨_, rfl⟩
     rw [hO] at hol hnext ⊢
     generalize l[k] = c at *
     clear htk hdr hO
     cases hb : shortB c with
     | some x =>
       have hT : shortT c = [x] := by unfold shortT; rw [hb]
       have hE : esc c = [92, x] := by unfold esc; rw [hb]
       rw [hE] at hnext
       simp only [hT] at hsh
       have hne : ((txt [x]).toList == (⟨#[]⟩ : ByteArray).toList) = false := txt_ne (a := [x]) (b := []) (by simp)
       have hie : (txt [x]).toList.isEmpty = false := by unfold txt; rw [ByteArray.toList_mk]; rfl
       have hne' : ((txt [x]).toList != (⟨#[]⟩ : ByteArray).toList) = true := by rw [bne, hne]; rfl
       obtain ⟨T, hTe⟩ : ∃ T, O ++ [92] = T := ⟨_, rfl⟩
       have hTl := congrArg List.length hTe
       rw [List.length_append] at hTl
       simp only [List.length_cons, List.length_nil] at hTl
       obtain ⟨f1, g1⟩ := add_lit (a := O) (b := [92]) (s := ⟨#[92]⟩) rfl hTe (by omega) (by simp)
       have f1b : ¬ (9223372036854775807 < (txt O).size + 1) := by have := txt_size O; omega
       obtain ⟨f2, g2⟩ := add_lit (a := T) (b := [x]) (c := T ++ [x]) rfl rfl (by omega) (by simp)
       have f2b : ¬ (9223372036854775807 < (txt T).size + 1) := by have := txt_size T; omega
       have hfin : T ++ [x] = 34 :: (l.take (k + 1)).flatMap esc := by rw [hnext, ← hTe]; simp
       have HF := Lib.hid hfin
       generalize c.toNat = cn at *
       clear hb hT hE hnext hTe hfin hsl hext
       go_wp2_with fail
       refine (hsh _).mono ?_
       rintro e w1 ⟨rfl, rfl⟩
       go_wp2_with fail
       refine (hsh _).mono ?_
       rintro e w2 ⟨rfl, rfl⟩
       go_wp2_with fail
       go_roundw
       case rel => exact ⟨k + 1, by omega, by rw [← HF.out], by go_num, bA⟩
       case measure => simp [intOf]; omega
     | none =>
       have hT : shortT c = [] := by unfold shortT; rw [hb]
       simp only [hT] at hsh
       have hq : (txt []).toList = [] := by simp [txt]
       by_cases h32 : c.toNat < 32
       · have hE : esc c = [92, 117, 48, 48, hexD (c.toNat / 16), hexD (c.toNat % 16)] := by unfold esc; rw [hb]; dsimp only; rw [if_pos h32]
         rw [hE] at hnext
         have h32' : (c.toNat : Int) < 32 := by omega
         have hda := fun wx => digit_any (w := wx) (n := c.toNat / 16) (by omega)
         have hdb := fun wx => digit_any (w := wx) (n := c.toNat % 16) (by omega)
         obtain ⟨a, ha⟩ : ∃ a, c.toNat / 16 = a := ⟨_, rfl⟩
         obtain ⟨b, hbb⟩ : ∃ b, c.toNat % 16 = b := ⟨_, rfl⟩
         rw [ha, hbb] at hnext
         simp only [ha] at hda
         simp only [hbb] at hdb
         have hai : (c.toNat : Int) / 16 = (a : Int) := by omega
         have hbi : (c.toNat : Int).tmod 16 = (b : Int) := by rw [Int.tmod_eq_emod_of_nonneg (by omega)]; omega
         have wa : IntKind.i64.wrap (a : Int) = (a : Int) := by simp only [IntKind.wrap, IntKind.signed, IntKind.bits]; simp; omega
         have wb : IntKind.i64.wrap (b : Int) = (b : Int) := by simp only [IntKind.wrap, IntKind.signed, IntKind.bits]; simp; omega
         have wa8 : IntKind.u8.wrap (a : Int) = (a : Int) := by simp only [IntKind.wrap, IntKind.signed, IntKind.bits]; simp; omega
         have wb8 : IntKind.u8.wrap (b : Int) = (b : Int) := by simp only [IntKind.wrap, IntKind.signed, IntKind.bits]; simp; omega
         generalize hexD a = xa at *
         generalize hexD b = xb at *
         obtain ⟨T1, h1⟩ : ∃ T, O ++ [92, 117, 48, 48] = T := ⟨_, rfl⟩
         obtain ⟨T2, h2⟩ : ∃ T, T1 ++ [xa] = T := ⟨_, rfl⟩
         have n1 := congrArg List.length h1
         have n2 := congrArg List.length h2
         rw [List.length_append] at n1 n2
         simp only [List.length_cons, List.length_nil] at n1 n2
         have g1 := (add_lit (a := O) (b := [92, 117, 48, 48]) (s := ⟨#[92, 117, 48, 48]⟩) rfl h1 (by omega) (by simp)).2
         have g2 := add_txt T1 [xa]
         rw [h2] at g2
         have g3 := add_txt T2 [xb]
         have hfin : T2 ++ [xb] = 34 :: (l.take (k + 1)).flatMap esc := by rw [hnext, ← h2, ← h1]; simp
         have f1 : ¬ (9223372036854775807 < (txt O).size + 4) := by have := txt_size O; omega
         have f2 : ¬ (9223372036854775807 < (txt T1).size + (txt [xa]).size) := by have := txt_size T1; have := txt_size [xa]; simp at this; omega
         have f3 : ¬ (9223372036854775807 < (txt T2).size + (txt [xb]).size) := by have := txt_size T2; have := txt_size [xb]; simp at this; omega
         obtain ⟨N, hN⟩ : ∃ N, 34 :: (l.take (k + 1)).flatMap esc = N := ⟨_, rfl⟩
         have HN := Lib.hid hN
         rw [hfin, hN] at g3
         generalize c.toNat = cn at *
         clear hb hT hE hnext h1 h2 hfin ha hbb n1 n2 hsl hext hN
         go_wp2_with fail
         refine (hsh _).mono ?_
         rintro e w1 ⟨rfl, rfl⟩
         go_upto_region 8 with fail
         go_region_with (first
           | (go_at_call_of 105 (Value.int IntKind.i64 (a : Int)); refine (hda _).mono ?_; rintro e wx ⟨rfl, kx⟩; first | (have bx := bx.trans (kx.mono bx.size)) | (have bx := (below_drewN bA 1).trans (kx.mono bA.size)))
           | (go_at_call_of 105 (Value.int IntKind.i64 (b : Int)); refine (hdb _).mono ?_; rintro e wx ⟨rfl, kx⟩; first | (have bx := bx.trans (kx.mono bx.size)) | (have bx := (below_drewN bA 1).trans (kx.mono bA.size))))
         all_goals
           go_wp2_with fail
           go_roundw
           case rel => exact ⟨k + 1, by omega, by rw [HN.out], by go_num, bx⟩
           case measure => simp [intOf]; omega
       · have hE : esc c = [c] := by unfold esc; rw [hb]; dsimp only; rw [if_neg h32]
         rw [hE] at hnext
         have h32' : decide ((c.toNat : Int) < 32) = false := by simp; omega
         have g1 := add_txt O [c]
         obtain ⟨N, hN⟩ : ∃ N, 34 :: (l.take (k + 1)).flatMap esc = N := ⟨_, rfl⟩
         have HN := Lib.hid hN
         rw [← hnext, hN] at g1
         have f1 : ¬ (9223372036854775807 < (txt O).size + (txt [c]).size) := by have := txt_size O; have := txt_size [c]; simp at this; omega
         generalize c.toNat = cn at *
         clear hb hT hE hnext hN
         go_wp2_with fail
         refine (hsh _).mono ?_
         rintro e w1 ⟨rfl, rfl⟩
         go_wp2_with fail
         go_roundw
         case rel => exact ⟨k + 1, by omega, by rw [HN.out], by go_num, bA⟩
         case measure => simp [intOf]; omega
   · obtain rfl : k = l.length := by omega
     rw [List.take_length] at hol ⊢
     have hp : print l = (34 :: l.flatMap esc) ++ [34] := rfl
     obtain ⟨O, hO⟩ : ∃ O, 34 :: l.flatMap esc = O := ⟨_, rfl⟩
     rw [hO] at hol hp ⊢
     have g1 := (add_lit (a := O) (b := [34]) (s := ⟨#[34]⟩) rfl hp.symm (by omega) (by simp)).2
     have f1 : ¬ (9223372036854775807 < (txt O).size + 1) := by have := txt_size O; omega
     clear hp hO
     go_wp2_with fail
     go_ret
     exact ⟨rfl, bA⟩
end Go.Proofs.YtlfbnfphocpgeaaGreatDoor.Quo
namespace Go.Proofs.YtlfbnfphocpgeaaGreatDoor.Num
open Go.RowKit Kit
set_option maxRecDepth 100000 in
set_option maxHeartbeats 1000000 in
theorem digits_any : ∀ (n : Nat), n < 1000000000000 → ∀ (w : World), Calls Tryz.prog 102 #[.int .i64 n] w fun e w' => e = .returned (.string (txt (digits n))) ∧ Below w.heap.size w w' := by
 intro n
 induction n using Nat.strongRecOn with
 | ind n ih =>
   intro hn w
   by_cases h : n < 10
   · have h' : (n : Int) < 10 := by omega
     have hd := digits_lo h
     have c0 := fun wx => one_text wx (48 + (n : Int)) (48 + n) (by omega) (by omega)
     rw [← hd] at c0
     have b0 : Below w.heap.size w (w.alloc (.cells #[.int .u8 (48 + (n : Int))] 5)) := (Below.refl _ w).alloc (Nat.le_refl _) _
     clear hd ih
     go_enter Tryz.func102, Tryz.ntmps102
     go_wp2_with fail
     go_ret
     exact ⟨rfl, b0⟩
   · have h' : decide ((n : Int) < 10) = false := by simp; omega
     obtain ⟨q, hq⟩ : ∃ q, n / 10 = q := ⟨_, rfl⟩
     obtain ⟨r, hr⟩ : ∃ r, n % 10 = r := ⟨_, rfl⟩
     have hqi : (n : Int) / 10 = (q : Int) := by omega
     have hri : (n : Int).tmod 10 = (r : Int) := by rw [Int.tmod_eq_emod_of_nonneg (by omega)]; omega
     have hr10 : r < 10 := by omega
     have hd := digits_hi (n := n) (by omega)
     rw [hq, hr] at hd
     have c0 := fun wx => one_text wx (48 + (r : Int)) (48 + r) (by omega) (by omega)
     have hq2 := ih q (by omega) (by omega)
     have c3 := one_text_drew w (48 + (r : Int)) (48 + r) (by omega) (by omega)
     have w1 : IntKind.i64.wrap (q : Int) = (q : Int) := by simp only [IntKind.wrap, IntKind.signed, IntKind.bits]; simp; omega
     have w2 : IntKind.i64.wrap (r : Int) = (r : Int) := by simp only [IntKind.wrap, IntKind.signed, IntKind.bits]; simp; omega
     have w3 : IntKind.i64.wrap (48 + (r : Int)) = 48 + (r : Int) := by simp only [IntKind.wrap, IntKind.signed, IntKind.bits]; simp; omega
     have w4 : IntKind.u8.wrap (48 + (r : Int)) = 48 + (r : Int) := by simp only [IntKind.wrap, IntKind.signed, IntKind.bits]; simp; omega
     obtain ⟨ch, hch⟩ : ∃ ch, UInt8.ofNat (48 + r) = ch := ⟨_, rfl⟩
     rw [hch] at hd c3
     simp only [hch] at c0
     have hql := digits_len q 12 (by omega) (by omega)
     have hfit := add_fit (a := digits q) (b := [ch]) (by omega) (by simp)
     have hadd := add_txt (digits q) [ch]
     rw [← hd] at hadd
     have HC := Lib.hid hch
     clear hd ih hq hr h hn hql hch
     go_enter Tryz.func102, Tryz.ntmps102
     go_upto_region 3 with fail
     go_region_with (go_at_call 102; refine (hq2 _).mono ?_; rintro e w1 ⟨rfl, k1⟩; first | (have c2 := one_text_after (g := w.heap.size) k1 (World.alloc_heap_new w _) (48 + r) (by omega) (by omega); rw [HC.out] at c2) | skip)
     all_goals
       go_wp2_with fail
       go_ret
       refine ⟨rfl, ?_⟩
       first
         | exact (((below_drewN (Below.refl w.heap.size w) 1).trans k1).alloc k1.size _)
         | exact (below_drewN ((Below.refl w.heap.size w).alloc (Nat.le_refl _) _) 1).trans (k1.mono (by simp))
         | exact (below_drewN ((Below.refl w.heap.size w).alloc (Nat.le_refl _) _) 1).trans (k1.mono (by show _ ≤ (w.alloc _).heap.size; simp))
set_option maxRecDepth 100000 in
theorem noughts_any {w : World} {k : Nat} (hk : k < 1000000) : Calls Tryz.prog 103 #[.int .i64 k] w fun e w' => e = .returned (.string (txt (noughts k))) ∧ w' = w := by
 have ht : txt [] = (⟨#[]⟩ : ByteArray) := rfl
 have h1 : (⟨#[48]⟩ : ByteArray) = txt [48] := rfl
 go_enter Tryz.func103, Tryz.ntmps103
 go_wp2_with fail
 go_loopw [3, 4] (fun s i wr => ∃ j : Nat, j ≤ k ∧ s = .string (txt (noughts j)) ∧ i = .int .i64 j ∧ wr = w) (fun _ i _ => k - (intOf i).toNat)
 case atStart => exact ⟨0, Nat.zero_le _, rfl, rfl, rfl⟩
 case round =>
   obtain ⟨j, hj, rfl, rfl, rfl⟩ := hrel
   by_cases h : j < k
   · have h' : (j : Int) < (k : Int) := by omega
     have hsz := txt_size (noughts j)
     rw [noughts_len] at hsz
     have hz1 := txt_size [48]
     have hf : ¬ (9223372036854775807 < (txt (noughts j)).size + (txt [48]).size) := add_fit (by rw [noughts_len]; omega) (by simp)
     have ha : txt (noughts j) ++ txt [48] = txt (noughts (j + 1)) := by
       rw [add_txt]
       unfold noughts
       rw [List.replicate_succ']
     rw [← h1] at hf ha
     clear hsz hz1 ht h1
     go_wp2_with fail
     go_roundw
     case rel => exact ⟨j + 1, by omega, by first | rfl | rw [ha], by go_num, by first | trivial | rfl⟩
     case measure => simp [intOf]; omega
   · obtain rfl : j = k := by omega
     go_wp2_with fail
     go_ret
     exact ⟨rfl, rfl⟩
end Go.Proofs.YtlfbnfphocpgeaaGreatDoor.Num
namespace Go.Proofs.YtlfbnfphocpgeaaGreatDoor.Num
def valR : List UInt8 → Nat
 | [] => 0
 | c :: r => (c.toNat - 48) + 10 * valR r
theorem valD_rev (r : List UInt8) : valD r.reverse = valR r := by
 induction r with
 | nil => rfl
 | cons c r ih =>
   rw [List.reverse_cons, valD_snoc, ih]
   show valR r * 10 + (c.toNat - 48) = (c.toNat - 48) + 10 * valR r
   omega
theorem valD_eq (d : List UInt8) : valD d = valR d.reverse := by rw [← valD_rev, List.reverse_reverse]
theorem valR_app (r s : List UInt8) : valR (r ++ s) = valR r + 10 ^ r.length * valR s := by
 induction r with
 | nil => simp [valR]
 | cons c r ih =>
   show (c.toNat - 48) + 10 * valR (r ++ s) = (c.toNat - 48) + 10 * valR r + 10 ^ (r.length + 1) * valR s
   rw [ih, Nat.pow_succ, Nat.mul_comm (10 ^ r.length) 10, Nat.mul_assoc]
   omega
theorem right_exp {n : Dec} (h : Right n) : -10000 ≤ n.exp ∧ n.exp ≤ 10000 ∧ n.dig.length ≤ 1000 ∧ (∀ c ∈ n.dig, dg c = true) := by
 unfold Right at h
 split at h
 · rename_i h0
   rw [h0, h.2]
   simp
 · exact ⟨h.2.1, h.2.2.1, h.1, h.2.2.2.1⟩
theorem valR_zeros (k : Nat) (s : List UInt8) : valR (noughts k ++ s) = 10 ^ k * valR s := by
 rw [valR_app, noughts_len]
 have : ∀ k, valR (noughts k) = 0 := by
   intro k
   induction k with
   | zero => rfl
   | succ k ih =>
     show (48 - 48) + 10 * valR (noughts k) = 0
     rw [ih]
 rw [this]
 omega
theorem strip_val (d : List UInt8) (e : Int) : ∃ k : Nat, (strip d e).2 = e + k ∧ d = (strip d e).1 ++ noughts k ∧ valD d = valD (strip d e).1 * 10 ^ k := by
 have h1 : d.reverse.takeWhile z48 = noughts (d.reverse.takeWhile z48).length := by
   apply List.eq_replicate_iff.2
   refine ⟨rfl, fun c hc => ?_⟩
   have := List.all_eq_true.1 (List.all_takeWhile (l := d.reverse) (p := z48)) c hc
   simpa [z48] using this
 have h2 : d.reverse = noughts (d.reverse.takeWhile z48).length ++ d.reverse.dropWhile z48 := by
   rw [← h1]
   exact List.takeWhile_append_dropWhile.symm
 refine ⟨(d.reverse.takeWhile z48).length, rfl, ?_, ?_⟩
 · have := congrArg List.reverse h2
   rw [List.reverse_reverse, List.reverse_append] at this
   rw [show (noughts (d.reverse.takeWhile z48).length).reverse = noughts (d.reverse.takeWhile z48).length by simp [noughts]] at this
   exact this
 · rw [valD_eq d, h2, valR_zeros]
   show _ = valD (d.reverse.dropWhile z48).reverse * _
   rw [valD_rev, ← h2, Nat.mul_comm]
end Go.Proofs.YtlfbnfphocpgeaaGreatDoor.Num
namespace Go.Proofs.YtlfbnfphocpgeaaGreatDoor.Num
open Go.RowKit Kit
theorem idz {l : List UInt8} {z : Int} (h0 : 0 ≤ z) (h1 : z < l.length) (wx : World) : (Instr.index 9 (.string (txt l)) (.int .i64 z)).run Tryz.prog wx = .ok (.int .u8 (nb l z.toNat : Int)) wx := by
 have := idx (l := l) (i := z.toNat) (by omega) wx
 rwa [Int.toNat_of_nonneg h0] at this
theorem box_step {w wx wy : World} {g : Nat} {a0 a1 a2 : Value} (hS : wx.cell? ⟨g, 0, none⟩ = some a0 ∧ wx.cell? ⟨g, 1, none⟩ = some a1 ∧ wx.cell? ⟨g, 2, none⟩ = some a2 ∧ Below w.heap.size w wx)
   (kx : Below wx.heap.size wx wy) : wy.cell? ⟨g, 0, none⟩ = some a0 ∧ wy.cell? ⟨g, 1, none⟩ = some a1 ∧ wy.cell? ⟨g, 2, none⟩ = some a2 ∧ Below w.heap.size w wy := by
 obtain ⟨h1, h2, h3, h7⟩ := hS
 have hg : g < wx.heap.size := World.block_lt_of_cell? _ _ h1
 exact ⟨(kx.cell (p := ⟨g, 0, none⟩) hg).trans h1, (kx.cell (p := ⟨g, 1, none⟩) hg).trans h2, (kx.cell (p := ⟨g, 2, none⟩) hg).trans h3, h7.trans (kx.mono h7.size)⟩
theorem box_new (w : World) (a0 a1 a2 : Value) : (w.alloc (.cells #[a0, a1, a2] 25)).cell? ⟨w.heap.size, 0, none⟩ = some a0 ∧ (w.alloc (.cells #[a0, a1, a2] 25)).cell? ⟨w.heap.size, 1, none⟩ = some a1 ∧
   (w.alloc (.cells #[a0, a1, a2] 25)).cell? ⟨w.heap.size, 2, none⟩ = some a2 ∧ Below w.heap.size w (w.alloc (.cells #[a0, a1, a2] 25)) := by
 have h := World.alloc_heap_new w (.cells #[a0, a1, a2] 25)
 exact ⟨cell_of h 0, cell_of h 1, cell_of h 2, (Below.refl _ w).alloc (Nat.le_refl _) _⟩
end Go.Proofs.YtlfbnfphocpgeaaGreatDoor.Num
namespace Go.Proofs.YtlfbnfphocpgeaaGreatDoor.Num
open Go.RowKit Kit
theorem txt_extract (l : List UInt8) (i j : Nat) : (txt l).extract i j = txt ((l.drop i).take (j - i)) := by
 apply ByteArray.ext
 apply Array.ext'
 rw [ByteArray.data_extract, Array.toList_extract, List.extract_eq_take_drop]
 rfl
theorem slH {l : List UInt8} {z : Int} {k : Nat} (hz : z = (k : Int)) (hk : k ≤ l.length) (wx : World) : (Instr.slice 9 (.string (txt l)) none (some (.int .i64 z)) none).run Tryz.prog wx = .ok (.string (txt (l.take k))) wx := by
 subst hz
 have hs := txt_size l
 rw [run_slice_string_h (P := Tryz.prog) wx 9 (txt l) Tryz.underlying9 .i64 k (by omega) (by omega), txt_extract]
 simp
theorem slL {l : List UInt8} {z : Int} {k : Nat} (hz : z = (k : Int)) (hk : k ≤ l.length) (wx : World) : (Instr.slice 9 (.string (txt l)) (some (.int .i64 z)) none none).run Tryz.prog wx = .ok (.string (txt (l.drop k))) wx := by
 subst hz
 have hs := txt_size l
 rw [run_slice_string_l (P := Tryz.prog) wx 9 (txt l) Tryz.underlying9 .i64 k (by omega) (by omega), txt_extract]
 rw [hs, Int.toNat_natCast, List.take_of_length_le (by rw [List.length_drop]; omega)]
theorem slM {l : List UInt8} {y z : Int} {i j : Nat} (hy : y = (i : Int)) (hz : z = (j : Int)) (hi : i ≤ j) (hj : j ≤ l.length) (wx : World) : (Instr.slice 9 (.string (txt l)) (some (.int .i64 y)) (some (.int .i64 z)) none).run Tryz.prog wx = .ok (.string (txt ((l.drop i).take (j - i)))) wx := by
 subst hy; subst hz
 have hs := txt_size l
 rw [run_slice_string (P := Tryz.prog) wx 9 (txt l) .i64 .i64 i j Tryz.underlying9 (by omega) (by omega) (by omega), txt_extract]
 simp
theorem add_lit {a b c : List UInt8} {s : ByteArray} (hs : s = txt b) (hc : a ++ b = c) (ha : a.length < 1000000000000) (hb : b.length < 1000000000000) : ¬ (9223372036854775807 < (txt a).size + s.size) ∧ txt a ++ s = txt c := by
 subst hs; subst hc
 exact ⟨add_fit ha hb, add_txt a b⟩
theorem negT_len (b : Bool) : (negT b).length ≤ 1 := by cases b <;> simp [negT]
end Go.Proofs.YtlfbnfphocpgeaaGreatDoor.Num
namespace Go.Proofs.YtlfbnfphocpgeaaGreatDoor.Num
open Go.RowKit Kit
def Pair (w wr : World) (ng : Bool) (d : List UInt8) (e : Int) : Prop :=
 wr.heap[w.heap.size]? = some (.cells #[.bool false, .string (txt []), .int .i64 0] 25 (0, 0)) ∧
 wr.heap[w.heap.size + 1]? = some (.cells #[.bool ng, .string (txt d), .int .i64 e] 25 (0, 0)) ∧ Below w.heap.size w wr
theorem Pair.new (w : World) (ng : Bool) : Pair w ((w.alloc (.cells #[.bool false, .string (txt []), .int .i64 0] 25)).alloc (.cells #[.bool ng, .string (txt []), .int .i64 0] 25)) ng [] 0 := by
 refine ⟨new_of (World.alloc_heap_new w _) _, ?_, ((Below.refl _ w).alloc (Nat.le_refl _) _).alloc (by simp) _⟩
 have := World.alloc_heap_new (w.alloc (.cells #[.bool false, .string (txt []), .int .i64 0] 25)) (.cells #[.bool ng, .string (txt []), .int .i64 0] 25)
 rwa [World.size_alloc] at this
theorem set_other {w : World} {b g : Nat} {o : Obj} (h : w.heap[b]? = some o) (hne : b ≠ g) (i : Nat) (v : Value) : (w.setCell ⟨g, i, none⟩ v).heap[b]? = some o := by
 rw [Below.heap_setCell w ⟨g, i, none⟩ v b hne]
 exact h
theorem Pair.dig {w wr : World} {ng : Bool} {d : List UInt8} {e : Int} (h : Pair w wr ng d e) (x : List UInt8) : Pair w (wr.setCell ⟨w.heap.size + 1, 1, none⟩ (.string (txt x))) ng x e :=
 ⟨set_other h.1 (by omega) _ _, set_of h.2.1 1 _, h.2.2.setCell (p := ⟨w.heap.size + 1, 1, none⟩) (by show w.heap.size ≤ w.heap.size + 1; omega) _⟩
theorem Pair.exp {w wr : World} {ng : Bool} {d : List UInt8} {e : Int} (h : Pair w wr ng d e) (x : Int) : Pair w (wr.setCell ⟨w.heap.size + 1, 2, none⟩ (.int .i64 x)) ng d x :=
 ⟨set_other h.1 (by omega) _ _, set_of h.2.1 2 _, h.2.2.setCell (p := ⟨w.heap.size + 1, 2, none⟩) (by show w.heap.size ≤ w.heap.size + 1; omega) _⟩
theorem Pair.step {w wr wx : World} {ng : Bool} {d : List UInt8} {e : Int} (h : Pair w wr ng d e) (k : Below wr.heap.size wr wx) : Pair w wx ng d e :=
 ⟨(k.block _ (lt_of_heap h.1)).trans h.1, (k.block _ (lt_of_heap h.2.1)).trans h.2.1, h.2.2.trans (k.mono h.2.2.size)⟩
theorem Pair.drew {w wr : World} {ng : Bool} {d : List UInt8} {e : Int} (h : Pair w wr ng d e) : Pair w wr.drew ng d e := ⟨h.1, h.2.1, below_drewN h.2.2 1⟩
def parseV (r : Dec × Nat) : Value := .tuple #[numV r.1, .int .i64 r.2]
theorem tw_lt {α : Type} (p : α → Bool) : ∀ (L : List α) (k : Nat), k < (L.takeWhile p).length → ∃ h : k < L.length, p L[k] = true ∧ (L.takeWhile p)[k]? = some L[k]
 | [], k, h => by simp at h
 | a :: L, k, h => by
   rw [List.takeWhile_cons] at h ⊢
   by_cases ha : p a = true
   · rw [if_pos ha] at h ⊢
     match k, h with
     | 0, _ => exact ⟨by simp, ha, rfl⟩
     | k + 1, h =>
       obtain ⟨h1, h2, h3⟩ := tw_lt p L k (by simpa using h)
       exact ⟨by simp; omega, h2, by simpa using h3⟩
   · rw [if_neg ha] at h
     simp at h
theorem tw_end {α : Type} (p : α → Bool) : ∀ (L : List α) (h : (L.takeWhile p).length < L.length), p (L[(L.takeWhile p).length]) = false
 | [], h => by simp at h
 | a :: L, h => by
   by_cases ha : p a = true
   · have e : (a :: L).takeWhile p = a :: L.takeWhile p := by rw [List.takeWhile_cons, if_pos ha]
     simp only [e, List.length_cons, List.getElem_cons_succ] at h ⊢
     exact tw_end p L (by omega)
   · have e : (a :: L).takeWhile p = [] := by rw [List.takeWhile_cons, if_neg ha]
     simp only [e, List.length_nil, List.getElem_cons_zero]
     simpa using ha
theorem tw_le {α : Type} (p : α → Bool) (L : List α) : (L.takeWhile p).length ≤ L.length := (List.takeWhile_sublist _).length_le
theorem nb_get {l : List UInt8} {i : Nat} (h : i < l.length) : nb l i = (l[i]).toNat := by
 unfold nb
 rw [List.getD_eq_getElem?_getD, List.getElem?_eq_getElem h]
 rfl
theorem take_snoc {α : Type} {L : List α} {k : Nat} {a : α} (h : L[k]? = some a) : L.take (k + 1) = L.take k ++ [a] := by
 obtain ⟨hl, rfl⟩ := List.getElem?_eq_some_iff.1 h
 exact List.take_succ_eq_append_getElem hl
theorem mant_small (X : List UInt8) : -(X.length : Int) ≤ (X.foldl mantStep (false, 0, [])).2.1 ∧ (X.foldl mantStep (false, 0, [])).2.1 ≤ 0 ∧ (X.foldl mantStep (false, 0, [])).2.2.length ≤ X.length := by
 have gen : ∀ (X : List UInt8) (p : Bool) (e : Int) (d : List UInt8), e - X.length ≤ (X.foldl mantStep (p, e, d)).2.1 ∧ (X.foldl mantStep (p, e, d)).2.1 ≤ e ∧ (X.foldl mantStep (p, e, d)).2.2.length ≤ d.length + X.length := by
   intro X
   induction X with
   | nil => intro p e d; simp
   | cons c X ih =>
     intro p e d
     rw [List.foldl_cons]
     have hb : e - 1 ≤ (mantStep (p, e, d) c).2.1 ∧ (mantStep (p, e, d) c).2.1 ≤ e ∧ (mantStep (p, e, d) c).2.2.length ≤ d.length + 1 := by
       unfold mantStep
       split
       · dsimp only; omega
       · dsimp only
         refine ⟨by split <;> omega, by split <;> omega, ?_⟩
         split
         · rw [List.length_append]; simp
         · omega
     rcases hm : mantStep (p, e, d) c with ⟨p', e', d'⟩
     rw [hm] at hb
     dsimp only at hb
     obtain ⟨h1, h2, h3⟩ := ih p' e' d'
     rw [List.length_cons]
     refine ⟨by omega, by omega, by omega⟩
 have := gen X false 0 []
 simp at this
 omega
theorem exp_small (X : List UInt8) : (X.foldl expStep (0, false)).1 < 10000000000 := by
 have gen : ∀ (X : List UInt8) (a : Nat) (b : Bool), a < 10000000000 → (X.foldl expStep (a, b)).1 < 10000000000 := by
   intro X
   induction X with
   | nil => intro a b h; exact h
   | cons c X ih =>
     intro a b h
     rw [List.foldl_cons]
     refine ih _ _ ?_
     split
     · rename_i hh
       have := dg_num hh.1
       omega
     · exact h
 exact gen X 0 false (by decide)
theorem below_set3 {w W : World} (h : Below w.heap.size w W) (a b c : Value) : Below w.heap.size w (((W.setCell ⟨w.heap.size, 0, none⟩ a).setCell ⟨w.heap.size, 1, none⟩ b).setCell ⟨w.heap.size, 2, none⟩ c) :=
 ((h.setCell (p := ⟨w.heap.size, 0, none⟩) (Nat.le_refl _) a).setCell (p := ⟨w.heap.size, 1, none⟩) (Nat.le_refl _) b).setCell (p := ⟨w.heap.size, 2, none⟩) (Nat.le_refl _) c
def dlen (g : Nat) (wx : World) : Nat := match wx.cell? ⟨g, 1, none⟩ with | some (.string s) => s.size | _ => 0
theorem dlen_of {g : Nat} {wx : World} {d : List UInt8} (h : wx.cell? ⟨g, 1, none⟩ = some (.string (txt d))) : dlen g wx = d.length := by
 unfold dlen
 rw [h]
 exact txt_size d
end Go.Proofs.YtlfbnfphocpgeaaGreatDoor.Num
