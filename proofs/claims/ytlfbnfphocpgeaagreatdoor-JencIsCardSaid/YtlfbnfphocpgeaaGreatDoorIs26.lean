/- A part of what is_holds leans on (its texts, put together). Nothing is claimed here. -/
import Derived.Lib.MinMax
import Derived.Test.YtlfbnfphocpgeaaGreatDoorIs20
import Derived.Test.YtlfbnfphocpgeaaGreatDoorIs23
namespace Go.Proofs.YtlfbnfphocpgeaaGreatDoor.Num
open Go.RowKit Kit
/-! the library's, at texts -/
theorem cutPre_any (l : List UInt8) (w : World) : Calls Tryz.prog 95 #[.string (txt l), .string ⟨#[45]⟩] w fun e w' => e = .returned (.tuple #[.string (txt (Lib.trimPrefix l [45])), .bool (Lib.hasPrefix l [45])]) ∧ w' = w := Tryz.strings_CutPrefix (txt l) ⟨#[45]⟩ w
theorem trimPre_any (l : List UInt8) (w : World) : Calls Tryz.prog 160 #[.string (txt l), .string ⟨#[43]⟩] w fun e w' => e = .returned (.string (txt (Lib.trimPrefix l [43]))) ∧ w' = w := Tryz.strings_TrimPrefix (txt l) ⟨#[43]⟩ w
theorem trimL_any (l : List UInt8) (w : World) : Calls Tryz.prog 98 #[.string (txt l), .string ⟨#[48]⟩] w fun e w' => e = .returned (.string (txt (l.dropWhile z48))) ∧ w' = w := by
 rw [← trim_l]
 exact Tryz.strings_TrimLeft_one (txt l) 48 (by decide) w
theorem trimR_any {l : List UInt8} (hl : l.length < 1000000) (w : World) (e : Int) : Calls Tryz.prog 99 #[.string (txt l), .string ⟨#[48]⟩] w fun r w' => r = .returned (.string (txt (strip l e).1)) ∧ w' = w := by
 rw [← trim_r l e]
 exact Tryz.strings_TrimRight_one (txt l) 48 (by decide) w (by rw [txt_size]; omega)
theorem idxAny_any {l : List UInt8} (hl : l.length < 1000000) (ha : ∀ c ∈ l, c.toNat < 128) (w : World) : Calls Tryz.prog 128 #[.string (txt l), .string ⟨#[101, 69]⟩] w fun e w' => e = .returned (.int .i64 (Lib.indexAny l [101, 69])) ∧ Below w.heap.size w w' :=
 Tryz.strings_IndexAny_laid (txt l) ⟨#[101, 69]⟩ w (by rw [txt_size]; omega) (by decide) (fun j b hb => ha b (List.mem_of_getElem? hb)) (fun j b hb => by
   have : b ∈ ([101, 69] : List UInt8) := List.mem_of_getElem? hb
   simp at this
   rcases this with rfl | rfl <;> decide)
theorem sidx_any (l : List UInt8) (w : World) : Calls Tryz.prog 161 #[.string (txt l), .string ⟨#[46]⟩] w fun e w' => e = .returned (.int .i64 (Lib.indexByte l 46)) ∧ w' = w := Tryz.stringslite_Index_one (txt l) 46 w
set_option maxRecDepth 100000 in
theorem clone_any {l : List UInt8} (hl : l.length < 1000000) {w : World} : Calls Tryz.prog 78 #[.string (txt l)] w fun e w' => e = .returned (.string (txt l)) ∧ Below w.heap.size w w' := by
 have h := Tryz.stringslite_Clone (txt l) w (by rw [txt_size]; omega)
 go_enter Tryz.func78, Tryz.ntmps78
 go_wp2_with fail
 refine h.mono ?_
 rintro e w1 ⟨rfl, k1⟩
 go_wp2_with fail
 go_ret
 exact ⟨rfl, k1⟩
set_option maxRecDepth 100000 in
theorem scut_any {I F : List UInt8} (hI : ∀ c ∈ I, dg c = true) (hl : (mantT I F).length < 1000000) {w : World} :
   Calls Tryz.prog 130 #[.string (txt (mantT I F)), .string ⟨#[46]⟩] w fun e w' => e = .returned (.tuple #[.string (txt I), .string (txt F), .bool (decide (F ≠ []))]) ∧ Below w.heap.size w w' := by
 have hx := sidx_any (mantT I F) w
 rw [point_at hI] at hx
 have hs := txt_size (mantT I F)
 by_cases h : F = []
 · subst h
   rw [if_pos rfl] at hx
   have hm : mantT I [] = I := by simp [mantT, fracT]
   have ht : (⟨#[]⟩ : ByteArray) = txt [] := rfl
   rw [hm] at hx hs ⊢
   clear hm
   go_enter Tryz.func130, Tryz.ntmps130
   go_wp2_with fail
   refine hx.mono ?_
   rintro e w1 ⟨rfl, rfl⟩
   go_wp2_with fail
   go_ret3
   exact ⟨rfl, Below.refl _ _⟩
 · rw [if_neg h] at hx
   have hm : mantT I F = I ++ (46 :: F) := by unfold mantT fracT; rw [if_neg h]
   have hlen : (mantT I F).length = I.length + (F.length + 1) := by rw [hm, List.length_append, List.length_cons]
   have s1 := slH (l := mantT I F) (z := (I.length : Int)) (k := I.length) rfl (by omega)
   have s2 := slL (l := mantT I F) (z := (I.length : Int) + 1) (k := I.length + 1) (by omega) (by omega)
   have e1 : (mantT I F).take I.length = I := by rw [hm, List.take_left]
   have e2 : (mantT I F).drop (I.length + 1) = F := by
     rw [hm, List.drop_append, List.drop_eq_nil_of_le (by omega), List.nil_append, show I.length + 1 - I.length = 1 by omega]
     rfl
   rw [e1] at s1
   rw [e2] at s2
   rw [decide_eq_true h]
   have hI0 : (0 : Int) ≤ (I.length : Int) := by omega
   have hw1 : IntKind.i64.wrap ((I.length : Int) + 1) = (I.length : Int) + 1 := IntWalk.i64_in _ (by omega)
   clear e1 e2 hm hlen
   generalize txt (mantT I F) = M at *
   go_enter Tryz.func130, Tryz.ntmps130
   go_wp2_with fail
   refine hx.mono ?_
   rintro e w1 ⟨rfl, rfl⟩
   go_wp2_with fail
   go_quiet (fail)
   all_goals go_wp2_with fail
   all_goals go_ret3
   all_goals exact ⟨rfl, below_drewN (Below.refl _ _) _⟩
set_option maxRecDepth 100000 in
theorem cut_any {I F : List UInt8} (hI : ∀ c ∈ I, dg c = true) (hl : (mantT I F).length < 1000000) {w : World} :
   Calls Tryz.prog 97 #[.string (txt (mantT I F)), .string ⟨#[46]⟩] w fun e w' => e = .returned (.tuple #[.string (txt I), .string (txt F), .bool (decide (F ≠ []))]) ∧ Below w.heap.size w w' := by
 have h := scut_any hI hl (w := w)
 generalize decide (F ≠ []) = b at *
 go_enter Tryz.func97, Tryz.ntmps97
 go_wp2_with fail
 refine h.mono ?_
 rintro e w1 ⟨rfl, k1⟩
 go_wp2_with fail
 go_ret3
 exact ⟨rfl, k1⟩
theorem trim_plus {s E : List UInt8} (hs : s = [] ∨ s = [43] ∨ s = [45]) (hE : ∀ c ∈ E, dg c = true) (h0 : E ≠ []) :
   Lib.trimPrefix (Lib.trimPrefix (s ++ E) [43]) [45] = E ∧ Lib.hasPrefix (Lib.trimPrefix (s ++ E) [43]) [45] = decide (s = [45]) := by
 obtain ⟨c, E', rfl⟩ := List.exists_cons_of_ne_nil h0
 have hc := dg_num (hE c (by simp))
 have h43 : (43 == c) = false := by
   rw [beq_eq_false_iff_ne]
   rintro rfl
   revert hc
   decide
 have h45 : (45 == c) = false := by
   rw [beq_eq_false_iff_ne]
   rintro rfl
   revert hc
   decide
 have p43 : Lib.hasPrefix (c :: E') [43] = false := by
   show List.isPrefixOf [43] (c :: E') = false
   simp [List.isPrefixOf, h43]
 have p45 : Lib.hasPrefix (c :: E') [45] = false := by
   show List.isPrefixOf [45] (c :: E') = false
   simp [List.isPrefixOf, h45]
 have t43 : Lib.trimPrefix (c :: E') [43] = c :: E' := by unfold Lib.trimPrefix; rw [p43]; rfl
 have t45 : Lib.trimPrefix (c :: E') [45] = c :: E' := by unfold Lib.trimPrefix; rw [p45]; rfl
 rcases hs with rfl | rfl | rfl
 · rw [List.nil_append, t43]
   exact ⟨t45, p45⟩
 · rw [show Lib.trimPrefix ([43] ++ c :: E') [43] = c :: E' from rfl]
   exact ⟨t45, p45⟩
 · exact ⟨rfl, rfl⟩
theorem powN_take {E : List UInt8} {k : Nat} (h : k < E.length) : powN (E.take (k + 1)) = min (10 * powN (E.take k) + (nb E k - 48)) capT := by
 rw [List.take_succ_eq_append_getElem h, powN_snoc, nb_get h]
set_option maxRecDepth 100000 in
set_option maxHeartbeats 1000000 in
theorem power_any {w : World} {s E : List UInt8} (hs : s = [] ∨ s = [43] ∨ s = [45]) (hE : ∀ c ∈ E, dg c = true) (h0 : E ≠ []) (hl : E.length < 1000000) :
   Calls Tryz.prog 129 #[.string (txt (s ++ E))] w fun e w' => e = .returned (.int .i64 (powZ s E)) ∧ w' = w := by
 have h1 := trimPre_any (s ++ E) w
 have h2 := cutPre_any (Lib.trimPrefix (s ++ E) [43]) w
 obtain ⟨e1, e2⟩ := trim_plus hs hE h0
 rw [e1, e2] at h2
 have hz := txt_size E
 clear e1 e2
 have hcap : ∀ k, powN (E.take k) ≤ 1099511627776 := fun k => powN_le _
 have hall : powN (E.take E.length) = powN E := by rw [List.take_length]
 have hres : powZ s E = if s = [45] then -(powN E : Int) else powN E := rfl
 have HRES := Lib.hid hres
 clear hres
 go_enter Tryz.func129, Tryz.ntmps129
 go_wp2_with fail
 refine h1.mono ?_
 rintro e w1 ⟨rfl, rfl⟩
 go_wp2_with fail
 refine h2.mono ?_
 rintro e w1 ⟨rfl, rfl⟩
 clear h1 h2
 go_wp2_with fail
 go_loopw [5, 15] (fun n i wr => ∃ k : Nat, n = .int .i64 (powN (E.take k)) ∧ i = .int .i64 k ∧ k ≤ E.length ∧ wr = w1) (fun _ i _ => E.length - (intOf i).toNat)
 case atStart => exact ⟨0, rfl, rfl, Nat.zero_le _, rfl⟩
 case round =>
   obtain ⟨k, rfl, rfl, hk, rfl⟩ := hrel
   by_cases hlt : k < E.length
   · have hlt' : (k : Int) < (E.length : Int) := by omega
     have i1 := idx hlt
     have hd := (digAt_dg hlt).2 (hE _ (List.getElem_mem hlt))
     unfold DigAt at hd
     have hp := powN_take hlt
     have hc1 := hcap k
     have hcc : capT = 1099511627776 := rfl
     rw [hcc] at hp
     generalize powN (E.take k) = p at *
     generalize hq : powN (E.take (k + 1)) = q at *
     generalize nb E k = x at *
     have m1 : IntKind.u8.wrap ((x : Int) - 48) = (x : Int) - 48 := IntWalk.u8_in _ (by omega)
     have m3 : min (wrap64 (10 * (p : Int) + wrap64 ((x : Int) - 48))) 1099511627776 = (q : Int) := by
       rw [IntWalk.wrap64_in ((x : Int) - 48) (by omega), IntWalk.wrap64_in _ (by omega)]
       omega
     have M3 := Lib.hid m3
     clear m3
     have HQ := Lib.hid hq
     clear hq hp hd
     go_wp2_with fail
     go_roundw
     case rel => exact ⟨k + 1, by rw [HQ.out, M3.out], by go_num, by omega, by first | trivial | rfl⟩
     case measure => simp [intOf]; omega
   · obtain rfl : E.length = k := by omega
     have hres := HRES.out
     rw [hall]
     by_cases h45 : s = [45]
     · rw [if_pos h45] at hres
       have HR := Lib.hid hres
       rw [decide_eq_true h45]
       have hn : IntKind.i64.wrap (-(powN E : Int)) = -(powN E : Int) := IntWalk.i64_in _ (by have := powN_le E; have hcc : capT = 1099511627776 := rfl; omega)
       clear h45 hall hcap hres HRES
       go_wp2_with fail
       go_ret
       rw [HR.out]
       exact ⟨rfl, rfl⟩
     · rw [if_neg h45] at hres
       have HR := Lib.hid hres
       rw [decide_eq_false h45]
       clear h45 hall hcap hres HRES
       go_wp2_with fail
       go_ret
       rw [HR.out]
       exact ⟨rfl, rfl⟩
theorem expT_len (x : Option (UInt8 × List UInt8 × List UInt8)) (I F : List UInt8) : (mantT I F).length + (expT x).length = (rest I F x).length := by unfold mantT rest; simp; omega
set_option maxRecDepth 100000 in
set_option maxHeartbeats 1000000 in
theorem cutPower_any {w : World} {I F : List UInt8} {x : Option (UInt8 × List UInt8 × List UInt8)} (h : Parts I F x) (hl : (rest I F x).length < 1000000) :
   Calls Tryz.prog 96 #[.string (txt (rest I F x))] w fun e w' => e = .returned (.tuple #[.string (txt (mantT I F)), .int .i64 (expZ x)]) ∧ Below w.heap.size w w' := by
 have hx := idxAny_any hl (rest_asc h) w
 have hlen := expT_len x I F
 have hs := txt_size (rest I F x)
 match x, h with
 | none, h =>
   obtain ⟨e1, e2⟩ := e_none h
   rw [e1] at hx hs ⊢
   rw [e2] at hx
   have hz : expZ none = 0 := rfl
   rw [hz]
   clear e1 e2 hlen
   generalize txt (mantT I F) = M at *
   go_enter Tryz.func96, Tryz.ntmps96
   go_wp2_with fail
   refine hx.mono ?_
   rintro e w1 ⟨rfl, k1⟩
   go_wp2_with fail
   go_ret2
   exact ⟨rfl, k1⟩
 | some (m, s, E), h =>
   obtain ⟨_, hss, hE0, hE⟩ := h.mark m s E rfl
   obtain ⟨e1, e2⟩ := e_some h
   rw [e1] at hx
   have hz : expZ (some (m, s, E)) = powZ s E := rfl
   rw [hz]
   have hl2 : (mantT I F).length + (1 + (s.length + E.length)) = (rest I F (some (m, s, E))).length := by rw [e2]; simp; omega
   have s1 := slH (l := rest I F (some (m, s, E))) (z := ((mantT I F).length : Int)) (k := (mantT I F).length) rfl (by omega)
   have s2 := slL (l := rest I F (some (m, s, E))) (z := ((mantT I F).length : Int) + 1) (k := (mantT I F).length + 1) (by omega) (by omega)
   have t1 : (rest I F (some (m, s, E))).take (mantT I F).length = mantT I F := by rw [e2, List.take_left]
   have t2 : (rest I F (some (m, s, E))).drop ((mantT I F).length + 1) = s ++ E := by
     rw [e2, List.drop_append, List.drop_eq_nil_of_le (by omega), List.nil_append, show (mantT I F).length + 1 - (mantT I F).length = 1 by omega]
     rfl
   rw [t1] at s1
   rw [t2] at s2
   have hp := fun wx => power_any (w := wx) hss hE hE0 (by omega)
   have hw1 : IntKind.i64.wrap (((mantT I F).length : Int) + 1) = ((mantT I F).length : Int) + 1 := IntWalk.i64_in _ (by omega)
   have h0 : decide (((mantT I F).length : Int) < 0) = false := by simp
   clear t1 t2 e1 e2 hz hlen hl2
   generalize powZ s E = pz at *
   generalize txt (rest I F (some (m, s, E))) = M at *
   generalize txt (s ++ E) = SE at *
   generalize txt (mantT I F) = MT at *
   generalize (mantT I F).length = ml at *
   go_enter Tryz.func96, Tryz.ntmps96
   go_wp2_with fail
   refine hx.mono ?_
   rintro e w1 ⟨rfl, k1⟩
   go_wp2_with fail
   go_region_held3 (fun wx => Below w.heap.size w wx)
     (first | exact below_drewN k1 1 | assumption)
     (first | (go_at_call 129; refine (hp _).mono ?_; rintro e wx ⟨rfl, rfl⟩))
   go_wp2_with fail
   go_ret2
   exact ⟨rfl, by assumption⟩
end Go.Proofs.YtlfbnfphocpgeaaGreatDoor.Num
namespace Go.Proofs.YtlfbnfphocpgeaaGreatDoor.Num
open Go.RowKit Kit
theorem powZ_small {I F : List UInt8} {x : Option (UInt8 × List UInt8 × List UInt8)} (_h : Parts I F x) : -1099511627776 ≤ expZ x ∧ expZ x ≤ 1099511627776 := by
 have hcc : capT = 1099511627776 := rfl
 match x with
 | none => exact ⟨by decide, by decide⟩
 | some (m, s, E) =>
   have := powN_le E
   show -1099511627776 ≤ powZ s E ∧ powZ s E ≤ 1099511627776
   unfold powZ
   split <;> omega
theorem toList_txt (l : List UInt8) : (txt l).toList = l := by unfold txt; rw [ByteArray.toList_mk]
set_option maxRecDepth 100000 in
set_option maxHeartbeats 2000000 in
theorem nparse_tab {w : World} (ho : Tab w) {l : List UInt8} (hl : l.length < 100000) :
   Calls Tryz.prog 67 #[.string (txt l)] w fun e w' => e = .returned (parseV (parse l)) ∧ Below w.heap.size w w' := by
 have hs := txt_size l
 have ht0 : (⟨#[]⟩ : ByteArray) = txt [] := rfl
 have hA := World.alloc_heap_new w (.cells #[.bool false, .string (txt []), .int .i64 0] 25)
 have bA : Below w.heap.size w (w.alloc (.cells #[.bool false, .string (txt []), .int .i64 0] 25)) := (Below.refl _ w).alloc (Nat.le_refl _) _
 have q0 := cell_of hA 0
 have q1 := cell_of hA 1
 have q2 := cell_of hA 2
 have qf := free_of hA
 by_cases h0 : l = []
 · subst h0
   have hp : parse [] = (zero, 3) := rfl
   have he := toList_txt []
   simp only [List.length_nil] at hs
   rw [hp]
   clear hp hA ho
   go_enter Tryz.func67, Tryz.ntmps67
   go_wp2_with fail
   refine bodyPost_ret (v := parseV (zero, 3)) (by simp [results, Tryz.results67, go_sem, parseV, numV, zero, *]) rfl ⟨rfl, by first | exact bA | exact below_set3 bA _ _ _⟩
 · have he2 : ((txt l).toList == (txt []).toList) = false := by rw [toList_txt, toList_txt]; simp [h0]
   have hsc := nscan_tab (ho.below bA) hl
   by_cases h1 : scan l = l.length
   · obtain ⟨n, I, F, x, hP, rfl⟩ := parts_of h1 h0
     have hp := parse_prog n hP hl
     obtain ⟨a1, a2⟩ := cut_neg n hP
     obtain ⟨z1, z2⟩ := powZ_small hP
     have hlt : (text n I F x).length = (negT n).length + (rest I F x).length := by unfold text rest; rw [List.length_append]
     have hlm := expT_len x I F
     have hlI : (mantT I F).length = I.length + (fracT F).length := by unfold mantT; rw [List.length_append]
     have hlF : F.length ≤ (fracT F).length := by unfold fracT; split <;> simp_all
     have c1 := fun wx => cutPre_any (text n I F x) wx
     simp only [a1, a2] at c1
     have c2 := fun wx => cutPower_any (w := wx) hP (by omega)
     have c3 := fun wx => cut_any (w := wx) (F := F) hP.whole (by omega)
     have hadd : txt I ++ txt F = txt (I ++ F) := add_txt I F
     have hfit : ¬ (9223372036854775807 < (txt I).size + (txt F).size) := add_fit (by omega) (by omega)
     have c4 := fun wx => trimL_any (I ++ F) wx
     have hlD : ((I ++ F).dropWhile z48).length ≤ I.length + F.length := by rw [← List.length_append]; exact (List.dropWhile_sublist _).length_le
     have c5 := fun wx => trimR_any (l := (I ++ F).dropWhile z48) (by omega) wx (expZ x - F.length)
     obtain ⟨y1, y2⟩ := strip_len ((I ++ F).dropWhile z48) (expZ x - F.length)
     have hn : norm n ((I ++ F).dropWhile z48) (expZ x - F.length) = if (strip ((I ++ F).dropWhile z48) (expZ x - F.length)).1 = [] then (zero, 0) else if Right ⟨n, (strip ((I ++ F).dropWhile z48) (expZ x - F.length)).1, (strip ((I ++ F).dropWhile z48) (expZ x - F.length)).2⟩ then (⟨n, (strip ((I ++ F).dropWhile z48) (expZ x - F.length)).1, (strip ((I ++ F).dropWhile z48) (expZ x - F.length)).2⟩, 0) else (zero, 4) := rfl
     rw [← hp] at hn
     clear hp a1 a2
     rw [h1] at hsc
     have sF := txt_size F
     have sD := txt_size ((I ++ F).dropWhile z48)
     have sS := txt_size (strip ((I ++ F).dropWhile z48) (expZ x - F.length)).1
     generalize parse (text n I F x) = pr at *
     generalize decide (F ≠ []) = fb at *
     generalize (strip ((I ++ F).dropWhile z48) (expZ x - F.length)).2 = e3 at *
     generalize (strip ((I ++ F).dropWhile z48) (expZ x - F.length)).1 = d3 at *
     generalize (I ++ F).dropWhile z48 = D at *
     generalize expZ x = pz at *
     generalize (text n I F x) = l at *
     have hll : decide ((l.length : Int) < (l.length : Int)) = false := by simp
     have hn1 : IntKind.i64.wrap (pz - (F.length : Int)) = pz - (F.length : Int) := IntWalk.i64_in _ (by omega)
     have hn2 : IntKind.i64.wrap (pz - (F.length : Int) + (D.length : Int)) = pz - (F.length : Int) + (D.length : Int) := IntWalk.i64_in _ (by omega)
     have hn3 : IntKind.i64.wrap (pz - (F.length : Int) + (D.length : Int) - (d3.length : Int)) = pz - (F.length : Int) + (D.length : Int) - (d3.length : Int) := IntWalk.i64_in _ (by omega)
     have hd3 : d3.length < 1000000 := by omega
     subst y2
     have HN := Lib.hid hn
     have HL1 := Lib.hid hlt
     clear hn h0 h1 ho hlt hlm hlI
     go_enter Tryz.func67, Tryz.ntmps67
     go_wp2_with fail
     refine hsc.mono ?_
     rintro e w1 ⟨rfl, k1⟩
     have hA1 := (k1.block _ (lt_of_heap hA)).trans hA
     have b1 := bA.trans (k1.mono bA.size)
     clear q0 q1 q2 qf hA bA k1 hsc
     go_wp2_with fail
     refine (c1 _).mono ?_
     rintro e w1 ⟨rfl, rfl⟩
     go_wp2_with fail
     refine (c2 _).mono ?_
     rintro e w2 ⟨rfl, k2⟩
     have hA2 := (k2.block _ (lt_of_heap hA1)).trans hA1
     have b2 := b1.trans (k2.mono b1.size)
     clear hA1 b1 k2
     go_wp2_with fail
     refine (c3 _).mono ?_
     rintro e w3 ⟨rfl, k3⟩
     have hA3 := (k3.block _ (lt_of_heap hA2)).trans hA2
     have b3 := b2.trans (k3.mono b2.size)
     clear hA2 b2 k3
     go_wp2_with fail
     refine (c4 _).mono ?_
     rintro e w3 ⟨rfl, rfl⟩
     go_wp2_with fail
     refine (c5 _).mono ?_
     rintro e w3 ⟨rfl, rfl⟩
     clear c1 c2 c3 c4 c5
     have hn := HN.out
     have r0 := cell_of hA3 0
     have r1 := cell_of hA3 1
     have r2 := cell_of hA3 2
     have rf := free_of hA3
     by_cases hd : d3 = []
     · rw [if_pos hd] at hn
       have HR := Lib.hid hn
       subst hd
       have he := toList_txt []
       clear hn HN
       go_wp2_with fail
       refine bodyPost_ret (v := parseV (zero, 0)) (by simp [results, Tryz.results67, go_sem, parseV, numV, zero, *]) rfl ⟨by rw [HR.out], by first | exact b3 | exact below_set3 b3 _ _ _⟩
     · rw [if_neg hd] at hn
       have hd2 : ((txt d3).toList == (txt []).toList) = false := by rw [toList_txt, toList_txt]; simp [hd]
       have cc := fun wx => clone_any (l := d3) hd3 (w := wx)
       have hrr := fun wx => nright_all (w := wx) (n := ⟨n, d3, pz - (F.length : Int) + (D.length : Int) - (d3.length : Int)⟩) (by dsimp only; omega)
       simp only [numV] at hrr
       clear HN hd
       go_wp2_with fail
       refine (cc _).mono ?_
       rintro e w4 ⟨rfl, k4⟩
       have hA4 := (k4.block _ (lt_of_heap hA3)).trans hA3
       have b4 := b3.trans (k4.mono b3.size)
       clear hA3 b3 k4 r0 r1 r2 rf cc
       have hA5 := new_of hA4 (.cells #[.bool n, .string (txt d3), .int .i64 (pz - (F.length : Int) + (D.length : Int) - (d3.length : Int))] 25)
       have hB5 := World.alloc_heap_new w4 (.cells #[.bool n, .string (txt d3), .int .i64 (pz - (F.length : Int) + (D.length : Int) - (d3.length : Int))] 25)
       have b5 := b4.alloc b4.size (.cells #[.bool n, .string (txt d3), .int .i64 (pz - (F.length : Int) + (D.length : Int) - (d3.length : Int))] 25)
       have hl4 := lt_of_heap hA4
       obtain ⟨ez, hez⟩ : ∃ ez, pz - (F.length : Int) + (D.length : Int) - (d3.length : Int) = ez := ⟨_, rfl⟩
       rw [hez] at hrr hA5 hB5 b5 hn3 hn
       obtain ⟨g, hg⟩ : ∃ g, w4.heap.size = g := ⟨_, rfl⟩
       go_wp2_with fail
       refine (hrr _).mono ?_
       rintro e w6 ⟨rfl, k6⟩
       have hA6 := (k6.block _ (lt_of_heap hA5)).trans hA5
       have hB6 := (k6.block _ (lt_of_heap hB5)).trans hB5
       have b6 := b5.trans (k6.mono b5.size)
       rw [hg] at hB6
       have r0 := cell_of hA6 0
       have r1 := cell_of hA6 1
       have r2 := cell_of hA6 2
       have rf := free_of hA6
       have y0 := cell_of hB6 0
       have y1 := cell_of hB6 1
       have y2 := cell_of hB6 2
       clear hA4 hA5 hB5 b5 b4 k6 hA6 hB6 hez hn1 hn2 hn3
       clear hg
       by_cases hR : Right ⟨n, d3, ez⟩
       · rw [if_pos hR] at hn
         rw [decide_eq_true hR]
         have HR := Lib.hid hn
         clear hR hn
         go_wp2_with fail
         refine bodyPost_ret (v := parseV (⟨n, d3, ez⟩, 0)) (by simp [results, Tryz.results67, go_sem, parseV, numV, *]) rfl ⟨by rw [HR.out], below_set3 b6 _ _ _⟩
       · rw [if_neg hR] at hn
         rw [decide_eq_false hR]
         have HR := Lib.hid hn
         clear hR hn
         go_wp2_with fail
         refine bodyPost_ret (v := parseV (zero, 4)) (by simp [results, Tryz.results67, go_sem, parseV, numV, zero, *]) rfl ⟨by rw [HR.out], below_set3 b6 _ _ _⟩
   · have h1' : (scan l : Int) < (l.length : Int) := by
       have := scan_le l
       omega
     have hp : parse l = (zero, 3) := by unfold parse; rw [if_pos (.inr h1)]
     rw [hp]
     generalize scan l = sc at *
     clear hp h1 ho
     go_enter Tryz.func67, Tryz.ntmps67
     go_wp2_with fail
     refine hsc.mono ?_
     rintro e w1 ⟨rfl, k1⟩
     have hA1 := (k1.block _ (lt_of_heap hA)).trans hA
     have r0 := cell_of hA1 0
     have r1 := cell_of hA1 1
     have r2 := cell_of hA1 2
     have rf := free_of hA1
     have b1 := bA.trans (k1.mono bA.size)
     clear q0 q1 q2 qf hA hA1 bA k1
     go_wp2_with fail
     refine bodyPost_ret (v := parseV (zero, 3)) (by simp [results, Tryz.results67, go_sem, parseV, numV, zero, *]) rfl ⟨rfl, by first | exact b1 | exact below_set3 b1 _ _ _⟩
end Go.Proofs.YtlfbnfphocpgeaaGreatDoor.Num
namespace Go.Proofs.YtlfbnfphocpgeaaGreatDoor.Jdec
open Go.RowKit Kit Txt
open Utf (nb)
open Tre (Val HoldF zeroV)
theorem jscan_any {w : World} (ht : Num.Tab w) {l : List UInt8} (hl : l.length < 100000) : Calls Tryz.prog 66 #[.string (txt l)] w fun e w' => e = .returned (.int .i64 (Num.scan l)) ∧ Below w.heap.size w w' := Num.nscan_tab ht hl
theorem jparse_any {w : World} (ht : Num.Tab w) {l : List UInt8} (hl : l.length < 100000) : Calls Tryz.prog 67 #[.string (txt l)] w fun e w' => e = .returned (.tuple #[.agg #[.bool (Num.parse l).1.neg, .string (txt (Num.parse l).1.dig), .int .i64 (Num.parse l).1.exp], .int .i64 ((Num.parse l).2 : Int)]) ∧ Below w.heap.size w w' := Num.nparse_tab ht hl
set_option maxRecDepth 100000 in
set_option maxHeartbeats 8000000 in
theorem mnumber_any {w : World} {R : Nat} {s : List UInt8} {q : Nat} {o : Int} {u : Value} (hs : s.length < 100000) (hq : q ≤ s.length) (ht : Num.Tab w) (h : Rdr R s q o u w) :
   Calls Tryz.prog 43 #[rp R] w (Told R s u o w (number (s.drop q))) := by
 have hz := txt_size s
 have hR := lt_of_heap h
 obtain ⟨c0, c1, c2, c3⟩ := four h
 have hB := World.alloc_heap_new w (.cells #[.int .i64 0, .bool false, .bool false, .string ⟨#[]⟩, .int .i64 0, .string ⟨#[]⟩, .slice none 0 0, .slice none 0 0] 29)
 have bA : Below w.heap.size w (w.alloc (.cells #[.int .i64 0, .bool false, .bool false, .string ⟨#[]⟩, .int .i64 0, .string ⟨#[]⟩, .slice none 0 0, .slice none 0 0] 29)) := (Below.refl _ w).alloc (Nat.le_refl _) _
 have hsl := slL (l := s) (z := (q : Int)) rfl hq
 have hdl : (s.drop q).length < 100000 := by rw [List.length_drop]; omega
 have hdq := drop_at hq
 have hsc := fun wx (hb : Below w.heap.size w wx) => jscan_any (ht.below hb) hdl
 have hsn : Num.scan (s.drop q) ≤ (s.drop q).length := num_le _
 have hdz := List.length_drop (l := s) (i := q)
 have hnum : number (s.drop q) = number (s.drop q) := rfl
 conv at hnum => rhs; unfold number
 have hpa := fun wx (hb : Below w.heap.size w wx) => jparse_any (ht.below hb) (l := (s.drop q).take (Num.scan (s.drop q))) (by rw [List.length_take]; omega)
 have hdd : (s.drop q).drop (Num.scan (s.drop q)) = s.drop (q + Num.scan (s.drop q)) := by rw [List.drop_drop]
 rw [hdd] at hnum
 have htk := fun wx => slH (l := s.drop q) (z := ((Num.scan (s.drop q) : Nat) : Int)) rfl hsn wx
 have hzl := txt_size (s.drop q)
 generalize hl : s.drop q = l at *
 generalize Num.scan l = n at *
 generalize hgn : number l = g at *
 have hR8 := fun (B : Nat) (wx : World) (x : Num.Dec) => flat_hold 3 false x [] B wx
 unfold rp
 by_cases hn : n = 0
 · subst hn
   rw [if_pos rfl] at hnum
   by_cases h1 : l.length = 1
   · rw [if_pos h1] at hnum
     have h1' : ((l.length : Int) == 1) = true := by simp [h1]
     have HN := Lib.hid hnum
     have HQ := Lib.hid hdq
     have HS := Lib.hid hsc
     have H := Lib.hid h
     clear hnum hdq hsc hpa htk hdd hdl hsn h1 hl hgn ht h hR8 hdz
     go_enter Tryz.func43, Tryz.ntmps43
     go_wp2_with fail
     go_quiet (fail)
     have bq := below_drewN bA nq
     go_wp2_with fail
     refine (HS.out _ bq).mono ?_
     rintro e w1 ⟨rfl, k1⟩
     have b1 := bq.trans (k1.mono bq.size)
     have hB1 := (k1.block _ (by show w.heap.size < (w.alloc _).heap.size; simp)).trans hB
     have hB2 := store8 hB1 (.int .i64 0) (.bool false) (.bool false) (.string ⟨#[]⟩) (.int .i64 0) (.string ⟨#[]⟩) (.slice none 0 0) (.slice none 0 0)
     have k3 := grown8 w1 w.heap.size (.int .i64 0) (.bool false) (.bool false) (.string ⟨#[]⟩) (.int .i64 0) (.string ⟨#[]⟩) (.slice none 0 0) (.slice none 0 0)
     have g3 := grown_on (below_grown (row := some R) b1) k3 (Nat.le_refl _)
     have r3 := (H.out.below b1).kept k3 (by simp; omega)
     obtain ⟨e0, e1, e2, e3, e4, e5, e6, e7⟩ := eight hB1
     obtain ⟨f0, f1, f2, f3, f4, f5, f6, f7⟩ := free8 hB1
     have HB := Lib.hid hB2
     have HG := Lib.hid g3
     have HR := Lib.hid r3
     clear hB2 g3 r3 k3
     go_wp2_with fail
     obtain ⟨d0, d1, d2, d3, d4, d5, d6, d7⟩ := eight HB.out
     refine bodyPost_ret (v := .tuple #[zeroV, .int .i64 2]) (by simp [results, Tryz.results43, go_sem, zeroV, d0, d1, d2, d3, d4, d5, d6, d7]) rfl ?_
     exact .no (k := 2) HN.out HQ.out HG.out HR.out
   · rw [if_neg h1] at hnum
     have h1' : ((l.length : Int) == 1) = false := by simp; omega
     have HN := Lib.hid hnum
     have HQ := Lib.hid hdq
     have HS := Lib.hid hsc
     have H := Lib.hid h
     clear hnum hdq hsc hpa htk hdd hdl hsn h1 hl hgn ht h hR8 hdz
     go_enter Tryz.func43, Tryz.ntmps43
     go_wp2_with fail
     go_quiet (fail)
     have bq := below_drewN bA nq
     go_wp2_with fail
     refine (HS.out _ bq).mono ?_
     rintro e w1 ⟨rfl, k1⟩
     have b1 := bq.trans (k1.mono bq.size)
     have hB1 := (k1.block _ (by show w.heap.size < (w.alloc _).heap.size; simp)).trans hB
     have hB2 := store8 hB1 (.int .i64 0) (.bool false) (.bool false) (.string ⟨#[]⟩) (.int .i64 0) (.string ⟨#[]⟩) (.slice none 0 0) (.slice none 0 0)
     have k3 := grown8 w1 w.heap.size (.int .i64 0) (.bool false) (.bool false) (.string ⟨#[]⟩) (.int .i64 0) (.string ⟨#[]⟩) (.slice none 0 0) (.slice none 0 0)
     have g3 := grown_on (below_grown (row := some R) b1) k3 (Nat.le_refl _)
     have r3 := (H.out.below b1).kept k3 (by simp; omega)
     obtain ⟨e0, e1, e2, e3, e4, e5, e6, e7⟩ := eight hB1
     obtain ⟨f0, f1, f2, f3, f4, f5, f6, f7⟩ := free8 hB1
     have HB := Lib.hid hB2
     have HG := Lib.hid g3
     have HR := Lib.hid r3
     clear hB2 g3 r3 k3
     go_wp2_with fail
     obtain ⟨d0, d1, d2, d3, d4, d5, d6, d7⟩ := eight HB.out
     refine bodyPost_ret (v := .tuple #[zeroV, .int .i64 3]) (by simp [results, Tryz.results43, go_sem, zeroV, d0, d1, d2, d3, d4, d5, d6, d7]) rfl ?_
     exact .no (k := 3) HN.out HQ.out HG.out HR.out
 · rw [if_neg hn] at hnum
   have hn' : (((n : Nat) : Int) == 0) = false := by simpa using hn
   generalize hx : (Num.parse (l.take n)).1 = x at *
   generalize he : (Num.parse (l.take n)).2 = ee at *
   by_cases h0 : ee = 0
   · subst h0
     rw [if_neg (by simp)] at hnum
     have hwq : IntKind.i64.wrap ((q : Int) + (n : Int)) = (q : Int) + (n : Int) := by
       simp only [IntKind.wrap, IntKind.signed, IntKind.bits]; simp; omega
     have hqn : q + n ≤ s.length := by omega
     have hdq2 := drop_at hqn
     have HN := Lib.hid hnum
     have HQ := Lib.hid hdq2
     have HS := Lib.hid hsc
     have HP := Lib.hid hpa
     have H := Lib.hid h
     have HF := Lib.hid (fun B wx => hR8 B wx x)
     clear hnum hdq hdq2 hsc hpa hdd hdl hn hl hgn ht h hR8 hdz hx he
     go_enter Tryz.func43, Tryz.ntmps43
     go_wp2_with fail
     go_quiet (fail)
     have bq := below_drewN bA nq
     go_wp2_with fail
     refine (HS.out _ bq).mono ?_
     rintro e w1 ⟨rfl, k1⟩
     have b1 := bq.trans (k1.mono bq.size)
     have hB1 := (k1.block _ (by show w.heap.size < (w.alloc _).heap.size; simp)).trans hB
     go_wp2_with fail
     refine (HP.out _ b1).mono ?_
     rintro e w2 ⟨rfl, k2⟩
     have b2 := b1.trans (k2.mono b1.size)
     have hB2 := (k2.block _ (lt_of_heap hB1)).trans hB1
     have hlt2 := lt_of_heap hB2
     have hR2 : R < w2.heap.size := by omega
     have hne : ¬ w.heap.size = R := by omega
     obtain ⟨c0, c1, c2, c3⟩ := four (H.out.below b2)
     have hf := free_of (H.out.below b2) 1
     obtain ⟨e0, e1, e2, e3, e4, e5, e6, e7⟩ := eight hB2
     obtain ⟨f0, f1, f2, f3, f4, f5, f6, f7⟩ := free8 hB2
     have r1 : Rdr R s (q + n) o u (w2.setCell ⟨R, 1, none⟩ (.int .i64 ((q : Int) + (n : Int)))) := (H.out.below b2).goes (q + n)
     have k3 := grown_cell w2 R 1 (.int .i64 ((q : Int) + (n : Int)))
     have hB3 := kept_of hB2 k3 hne
     have hB4 := new_of (store8 hB3 (.int .i64 3) (.bool false) (.bool x.neg) (.string (txt x.dig)) (.int .i64 x.exp) (.string ⟨#[]⟩) (.slice none 0 0) (.slice none 0 0)) (.cells #[.bool x.neg, .string (txt x.dig), .int .i64 x.exp] 25)
     have k4 := grown8 (w2.setCell ⟨R, 1, none⟩ (.int .i64 ((q : Int) + (n : Int)))) w.heap.size (.int .i64 3) (.bool false) (.bool x.neg) (.string (txt x.dig)) (.int .i64 x.exp) (.string ⟨#[]⟩) (.slice none 0 0) (.slice none 0 0)
     have g5 := grown_alloc (grown_on (grown_trans (below_grown (row := some R) b2) k3) k4 (Nat.le_refl _)) (.cells #[.bool x.neg, .string (txt x.dig), .int .i64 x.exp] 25)
     have r5 := (r1.kept k4 (by simp; omega)).below ((Below.refl _ _).alloc (Nat.le_refl _) (.cells #[.bool x.neg, .string (txt x.dig), .int .i64 x.exp] 25))
     have HB := Lib.hid hB4
     have HG := Lib.hid g5
     have HR := Lib.hid r5
     clear hB1 hB hB2 hB3 hB4 k3 k4 g5 r5 r1
     go_wp2_with fail
     obtain ⟨d0, d1, d2, d3, d4, d5, d6, d7⟩ := eight HB.out
     refine bodyPost_ret (v := .tuple #[.agg #[.int .i64 3, .bool false, .bool x.neg, .string (txt x.dig), .int .i64 x.exp, .string ⟨#[]⟩, .slice none 0 0, .slice none 0 0], .int .i64 0]) (by simp [results, Tryz.results43, go_sem, d0, d1, d2, d3, d4, d5, d6, d7]) rfl ?_
     exact .ok HN.out HQ.out HG.out (HF.out _ _) HR.out
   · rw [if_pos h0] at hnum
     have h0' : (((ee : Nat) : Int) != 0) = true := by simpa using h0
     have HN := Lib.hid hnum
     have HQ := Lib.hid hdq
     have HS := Lib.hid hsc
     have HP := Lib.hid hpa
     have H := Lib.hid h
     clear hnum hdq hsc hpa hdd hdl hn hl hgn ht h hR8 hdz hx he
     go_enter Tryz.func43, Tryz.ntmps43
     go_wp2_with fail
     go_quiet (fail)
     have bq := below_drewN bA nq
     go_wp2_with fail
     refine (HS.out _ bq).mono ?_
     rintro e w1 ⟨rfl, k1⟩
     have b1 := bq.trans (k1.mono bq.size)
     have hB1 := (k1.block _ (by show w.heap.size < (w.alloc _).heap.size; simp)).trans hB
     go_wp2_with fail
     refine (HP.out _ b1).mono ?_
     rintro e w2 ⟨rfl, k2⟩
     have b2 := b1.trans (k2.mono b1.size)
     have hB2 := (k2.block _ (lt_of_heap hB1)).trans hB1
     have hlt2 := lt_of_heap hB2
     have hR2 : R < w2.heap.size := by omega
     have hne : ¬ w.heap.size = R := by omega
     obtain ⟨e0, e1, e2, e3, e4, e5, e6, e7⟩ := eight hB2
     obtain ⟨f0, f1, f2, f3, f4, f5, f6, f7⟩ := free8 hB2
     have hB4 := new_of (store8 hB2 (.int .i64 0) (.bool false) (.bool false) (.string ⟨#[]⟩) (.int .i64 0) (.string ⟨#[]⟩) (.slice none 0 0) (.slice none 0 0)) (.cells #[.bool x.neg, .string (txt x.dig), .int .i64 x.exp] 25)
     have k4 := grown8 w2 w.heap.size (.int .i64 0) (.bool false) (.bool false) (.string ⟨#[]⟩) (.int .i64 0) (.string ⟨#[]⟩) (.slice none 0 0) (.slice none 0 0)
     have g5 := grown_alloc (grown_on (below_grown (row := some R) b2) k4 (Nat.le_refl _)) (.cells #[.bool x.neg, .string (txt x.dig), .int .i64 x.exp] 25)
     have r5 := ((H.out.below b2).kept k4 (by simp; omega)).below ((Below.refl _ _).alloc (Nat.le_refl _) (.cells #[.bool x.neg, .string (txt x.dig), .int .i64 x.exp] 25))
     have HB := Lib.hid hB4
     have HG := Lib.hid g5
     have HR := Lib.hid r5
     clear hB1 hB hB2 hB4 k4 g5 r5
     go_wp2_with fail
     obtain ⟨d0, d1, d2, d3, d4, d5, d6, d7⟩ := eight HB.out
     refine bodyPost_ret (v := .tuple #[zeroV, .int .i64 ee]) (by simp [results, Tryz.results43, go_sem, zeroV, d0, d1, d2, d3, d4, d5, d6, d7]) rfl ?_
     exact .no HN.out HQ.out HG.out HR.out
end Go.Proofs.YtlfbnfphocpgeaaGreatDoor.Jdec
