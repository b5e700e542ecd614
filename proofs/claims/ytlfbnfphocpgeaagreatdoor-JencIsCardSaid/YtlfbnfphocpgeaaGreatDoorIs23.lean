/- A part of what is_holds leans on (its texts, put together). Nothing is claimed here. -/
import Derived.Lib.Strings
import Derived.Lib.Bytealg
import Derived.Lib.IndexAny
import Derived.Lib.TrimByte
import Derived.Lib.Repeat
import Derived.Lib.Small
import Derived.Lib.ItoaNum
import Derived.Test.YtlfbnfphocpgeaaGreatDoorIs10
import Derived.Test.YtlfbnfphocpgeaaGreatDoorIs12
import Derived.Test.YtlfbnfphocpgeaaGreatDoorIs22
namespace Go.Proofs.YtlfbnfphocpgeaaGreatDoor.Num
open Go
/-! the text's parts -/
def rest (I F : List UInt8) (x : Option (UInt8 × List UInt8 × List UInt8)) : List UInt8 := I ++ (fracT F ++ expT x)
theorem head_not {I F : List UInt8} {x : Option (UInt8 × List UInt8 × List UInt8)} (h : Parts I F x) : ∃ c r, rest I F x = c :: r ∧ dg c = true := by
 obtain ⟨c, I', rfl⟩ := List.exists_cons_of_ne_nil h.ne
 exact ⟨c, I' ++ (fracT F ++ expT x), rfl, h.whole c (by simp)⟩
theorem cut_neg (n : Bool) {I F : List UInt8} {x : Option (UInt8 × List UInt8 × List UInt8)} (h : Parts I F x) :
   Lib.trimPrefix (text n I F x) [45] = rest I F x ∧ Lib.hasPrefix (text n I F x) [45] = n := by
 obtain ⟨c, r, e, hc⟩ := head_not h
 have hc' := dg_num hc
 have ht : text n I F x = negT n ++ (c :: r) := by rw [← e]; rfl
 rw [ht, e]
 cases n with
 | true => exact ⟨rfl, rfl⟩
 | false =>
   have h45 : (45 == c) = false := by
     rw [beq_eq_false_iff_ne]
     rintro rfl
     revert hc'
     decide
   have hp : Lib.hasPrefix (c :: r) [45] = false := by
     show List.isPrefixOf [45] (c :: r) = false
     simp [List.isPrefixOf, h45]
   refine ⟨?_, hp⟩
   show Lib.trimPrefix (c :: r) [45] = c :: r
   unfold Lib.trimPrefix
   rw [hp]
   rfl
theorem any_app {A B : List UInt8} (ch : List UInt8) (hA : ∀ c ∈ A, ch.contains c = false) : Lib.indexAny (A ++ B) ch = if Lib.indexAny B ch = -1 then -1 else A.length + Lib.indexAny B ch := by
 induction A with
 | nil => simp only [List.nil_append, List.length_nil]; split <;> omega
 | cons a A ih =>
   have hge := Lib.indexAny_ge ch B
   rw [List.cons_append, Lib.indexAny, hA a (by simp), ih (fun c hc => hA c (by simp [hc]))]
   by_cases h : Lib.indexAny B ch = -1
   · simp [h]
   · simp only [h, if_false, Bool.false_eq_true, List.length_cons]
     rw [if_neg (by simp; omega)]
     omega
theorem byte_app {A B : List UInt8} (ch : UInt8) (hA : ∀ c ∈ A, (c == ch) = false) : Lib.indexByte (A ++ B) ch = if Lib.indexByte B ch = -1 then -1 else A.length + Lib.indexByte B ch := by
 induction A with
 | nil => simp only [List.nil_append, List.length_nil]; split <;> omega
 | cons a A ih =>
   have hge := Lib.indexByte_ge B ch
   rw [List.cons_append, Lib.indexByte, hA a (by simp), ih (fun c hc => hA c (by simp [hc]))]
   by_cases h : Lib.indexByte B ch = -1
   · simp [h]
   · simp only [h, if_false, Bool.false_eq_true, List.length_cons]
     rw [if_neg (by simp; omega)]
     omega
def mantT (I F : List UInt8) : List UInt8 := I ++ fracT F
theorem mant_none {I F : List UInt8} (hI : ∀ c ∈ I, dg c = true) (hF : ∀ c ∈ F, dg c = true) : ∀ c ∈ mantT I F, ([101, 69] : List UInt8).contains c = false := by
 intro c hc
 have hd : dg c = true ∨ c = 46 := by
   unfold mantT fracT at hc
   rcases List.mem_append.1 hc with h | h
   · exact .inl (hI c h)
   · split at h
     · cases h
     · rcases List.mem_cons.1 h with h | h
       · exact .inr h
       · exact .inl (hF c h)
 rcases hd with h | rfl
 · have := dg_num h
   cases hh : ([101, 69] : List UInt8).contains c with
   | false => rfl
   | true =>
     exfalso
     simp at hh
     rcases hh with rfl | rfl <;> revert this <;> decide
 · rfl
theorem e_none {I F : List UInt8} (h : Parts I F none) : rest I F none = mantT I F ∧ Lib.indexAny (mantT I F) [101, 69] = -1 := by
 refine ⟨by simp [rest, mantT, expT], ?_⟩
 have := any_app (B := []) [101, 69] (mant_none h.whole h.frac)
 rw [List.append_nil] at this
 rw [this]
 rfl
theorem e_some {I F : List UInt8} {m : UInt8} {s E : List UInt8} (h : Parts I F (some (m, s, E))) :
   Lib.indexAny (rest I F (some (m, s, E))) [101, 69] = ((mantT I F).length : Nat) ∧ (rest I F (some (m, s, E))) = mantT I F ++ (m :: (s ++ E)) := by
 have e : rest I F (some (m, s, E)) = mantT I F ++ (m :: (s ++ E)) := by simp [rest, mantT, expT]
 refine ⟨?_, e⟩
 rw [e, any_app [101, 69] (mant_none h.whole h.frac)]
 have hm : Lib.indexAny (m :: (s ++ E)) [101, 69] = 0 := by
   rw [Lib.indexAny]
   rcases (h.mark m s E rfl).1 with rfl | rfl <;> rfl
 rw [hm]
 simp
theorem dg_asc {c : UInt8} (h : dg c = true) : c.toNat < 128 := by have := dg_num h; omega
theorem rest_asc {I F : List UInt8} {x : Option (UInt8 × List UInt8 × List UInt8)} (h : Parts I F x) : ∀ c ∈ rest I F x, c.toNat < 128 := by
 intro c hc
 unfold rest fracT at hc
 rcases List.mem_append.1 hc with hc | hc
 · exact dg_asc (h.whole c hc)
 rcases List.mem_append.1 hc with hc | hc
 · split at hc
   · cases hc
   · rcases List.mem_cons.1 hc with rfl | hc
     · decide
     · exact dg_asc (h.frac c hc)
 · match x, h with
   | none, _ => cases hc
   | some (m, s, E), h =>
     obtain ⟨hm, hs, hE, hd⟩ := h.mark m s E rfl
     rcases List.mem_cons.1 hc with rfl | hc
     · rcases hm with rfl | rfl <;> decide
     rcases List.mem_append.1 hc with hc | hc
     · rcases hs with rfl | rfl | rfl
       · cases hc
       · rw [List.mem_singleton] at hc; subst hc; decide
       · rw [List.mem_singleton] at hc; subst hc; decide
     · exact dg_asc (hd c hc)
theorem point_at {I F : List UInt8} (hI : ∀ c ∈ I, dg c = true) : Lib.indexByte (mantT I F) 46 = if F = [] then -1 else ((I.length : Nat) : Int) := by
 have hn : ∀ c ∈ I, (c == 46) = false := by
   intro c hc
   rw [beq_eq_false_iff_ne]
   rintro rfl
   have := dg_num (hI 46 hc)
   revert this
   decide
 unfold mantT
 rw [byte_app 46 hn]
 unfold fracT
 by_cases h : F = []
 · simp [h, Lib.indexByte]
 · simp [h, Lib.indexByte]
theorem trim_l (d : List UInt8) : Lib.trimLeftB d 48 = d.dropWhile z48 := by
 unfold Lib.trimLeftB
 congr 1
theorem trim_r (d : List UInt8) (e : Int) : Lib.trimRightB d 48 = (strip d e).1 := by
 unfold Lib.trimRightB strip
 congr 2
/-! the power -/
def capT : Nat := 1099511627776
def powN (E : List UInt8) : Nat := E.foldl (fun a c => min (10 * a + (c.toNat - 48)) capT) 0
def powZ (s E : List UInt8) : Int := if s = [45] then -(powN E : Int) else powN E
theorem powN_snoc (E : List UInt8) (c : UInt8) : powN (E ++ [c]) = min (10 * powN E + (c.toNat - 48)) capT := by simp [powN]
theorem powN_le (E : List UInt8) : powN E ≤ capT := by
 rcases List.eq_nil_or_concat E with rfl | ⟨E', c, rfl⟩
 · decide
 · rw [List.concat_eq_append, powN_snoc]
   exact Nat.min_le_right _ _
theorem pow_like (E : List UInt8) (hE : ∀ c ∈ E, dg c = true) (b : Bool) : ((E.foldl expStep (0, b)).2 = b) ∧ ((E.foldl expStep (0, b)).1 = powN E ∧ powN E < 10000000000 ∨ 1000000000 ≤ (E.foldl expStep (0, b)).1 ∧ (E.foldl expStep (0, b)).1 < 10000000000 ∧ 1000000000 ≤ powN E) := by
 obtain ⟨k, hk⟩ : ∃ k, E.length = k := ⟨_, rfl⟩
 induction k generalizing E with
 | zero =>
   obtain rfl := List.length_eq_zero_iff.1 hk
   exact ⟨rfl, .inl ⟨rfl, by decide⟩⟩
 | succ k ih0 =>
   obtain ⟨E', c, rfl⟩ : ∃ E' c, E = E' ++ [c] := by
     rcases List.eq_nil_or_concat E with rfl | ⟨E', c, rfl⟩
     · simp at hk
     · exact ⟨E', c, List.concat_eq_append⟩
   have ih := fun h => ih0 E' h (by simpa using hk)
   clear ih0 hk
   have hc := dg_num (hE c (by simp))
   have h45 : decide (c = 45) = false := by
     rw [decide_eq_false_iff_not]
     rintro rfl
     revert hc
     decide
   obtain ⟨i1, i2⟩ := ih (fun x hx => hE x (by simp [hx]))
   rw [List.foldl_append, powN_snoc, List.foldl_cons, List.foldl_nil]
   generalize E'.foldl expStep (0, b) = st at *
   generalize powN E' = pw at *
   obtain ⟨v, b'⟩ := st
   dsimp only at i1 i2
   subst i1
   have hcap : capT = 1099511627776 := rfl
   unfold expStep
   dsimp only
   rw [h45, Bool.or_false]
   refine ⟨rfl, ?_⟩
   by_cases hv : v < 1000000000
   · rw [if_pos ⟨hE c (by simp), hv⟩]
     rcases i2 with ⟨e, h⟩ | ⟨h, _⟩
     · subst e
       left
       omega
     · omega
   · rw [if_neg (fun e => hv e.2)]
     right
     rcases i2 with ⟨e, h⟩ | ⟨h1, h2, h3⟩
     · subst e; omega
     · omega
theorem strip_len (d : List UInt8) (e : Int) : (strip d e).1.length ≤ d.length ∧ (strip d e).2 = e + d.length - (strip d e).1.length := by
 obtain ⟨k, h1, h2, _⟩ := strip_val d e
 have := congrArg List.length h2
 rw [List.length_append, noughts_len] at this
 omega
theorem norm_far (n : Bool) (d : List UInt8) {e e' : Int} (hd : d.length < 1000000) (h : 10000000 < e ∧ 10000000 < e' ∨ e < -10000000 ∧ e' < -10000000) : norm n d e = norm n d e' := by
 have h1 : (strip d e).1 = (strip d e').1 := rfl
 obtain ⟨a1, a2⟩ := strip_len d e
 obtain ⟨b1, b2⟩ := strip_len d e'
 unfold norm
 rw [← h1]
 by_cases h0 : (strip d e).1 = []
 · rw [if_pos h0, if_pos h0]
 · rw [if_neg h0, if_neg h0]
   have n1 : ¬ Right ⟨n, (strip d e).1, (strip d e).2⟩ := by
     intro hr
     have := right_exp hr
     dsimp only at this
     omega
   have n2 : ¬ Right ⟨n, (strip d e).1, (strip d e').2⟩ := by
     intro hr
     have := right_exp hr
     dsimp only at this
     rw [← h1] at b2
     omega
   rw [if_neg n1, if_neg n2]
def expZ : Option (UInt8 × List UInt8 × List UInt8) → Int
 | none => 0
 | some (_, s, E) => powZ s E
theorem expo_parts (s E : List UInt8) (hs : s = [] ∨ s = [43] ∨ s = [45]) : expo (s ++ E) = E.foldl expStep (0, decide (s = [45])) := by
 unfold expo
 rw [List.foldl_append]
 rcases hs with rfl | rfl | rfl <;> rfl
theorem parse_prog (n : Bool) {I F : List UInt8} {x : Option (UInt8 × List UInt8 × List UInt8)} (h : Parts I F x) (hl : (text n I F x).length < 100000) :
   parse (text n I F x) = norm n ((I ++ F).dropWhile z48) (expZ x - F.length) := by
 have h0 := neg0_text n h
 have hs := scan_text n h
 have hm := mantL_text n h
 have hne : text n I F x ≠ [] := text_ne n h
 have hneg : decide (nb (text n I F x) 0 = 45) = n := by
   unfold neg0 at h0
   cases n with
   | true => rfl
   | false =>
     split at h0
     · cases h0
     · rename_i hh
       simp [hh]
 have hlF : F.length < 100000 ∧ ((I ++ F).dropWhile z48).length < 1000000 := by
   have h1 : ((I ++ F).dropWhile z48).length ≤ (I ++ F).length := (List.dropWhile_sublist _).length_le
   have h2 : (text n I F x).length = (negT n).length + (I.length + ((fracT F).length + (expT x).length)) := by simp [text]
   have h3 : F.length ≤ (fracT F).length := by unfold fracT; split <;> simp_all
   rw [List.length_append] at h1
   omega
 unfold parse
 rw [if_neg (by rw [hs]; simp [hne]), hm, mant_text h.whole h.frac, hneg, h0]
 have hdrop : (text n I F x).drop ((negT n).length + (I ++ fracT F).length + 1) = (expT x).drop 1 := by
   have e : text n I F x = (negT n ++ (I ++ fracT F)) ++ expT x := by simp [text]
   rw [e, ← List.length_append, List.drop_append, List.drop_eq_nil_of_le (by omega), List.nil_append]
   congr 1
   omega
 rw [hdrop]
 dsimp only
 match x, h with
 | none, _ =>
   show norm n _ (-(F.length : Int) + powOf (expo [])) = norm n _ (0 - (F.length : Int))
   congr 1
   show -(F.length : Int) + 0 = 0 - (F.length : Int)
   omega
 | some (m, s, E), h =>
   obtain ⟨_, hss, _, hE⟩ := h.mark m s E rfl
   show norm n _ (-(F.length : Int) + powOf (expo (s ++ E))) = norm n _ (powZ s E - (F.length : Int))
   rw [expo_parts s E hss]
   obtain ⟨p1, p2⟩ := pow_like E hE (decide (s = [45]))
   unfold powOf powZ
   rw [p1]
   generalize (E.foldl expStep (0, decide (s = [45]))).1 = v at *
   generalize powN E = v' at *
   by_cases c : s = [45]
   · rw [decide_eq_true c, if_pos c, if_pos rfl]
     rcases p2 with ⟨e, _⟩ | ⟨q1, q2, q3⟩
     · subst e
       congr 1
       omega
     · exact norm_far n _ hlF.2 (.inr ⟨by omega, by omega⟩)
   · rw [decide_eq_false c, if_neg c, if_neg (by simp)]
     rcases p2 with ⟨e, _⟩ | ⟨q1, q2, q3⟩
     · subst e
       congr 1
       omega
     · exact norm_far n _ hlF.2 (.inl ⟨by omega, by omega⟩)
end Go.Proofs.YtlfbnfphocpgeaaGreatDoor.Num
namespace Go.Proofs.YtlfbnfphocpgeaaGreatDoor.Num
open Go.RowKit Kit
def tcells : Array Value := (tab.map fun k => Value.int .i64 (k : Nat)).toArray
def Tab (w : World) : Prop := ∃ t fr, w.heap[0]? = some (.cells tcells t fr)
theorem Tab.below {w w' : World} (h : Tab w) (k : Below w.heap.size w w') : Tab w' := by
 obtain ⟨t, fr, hh⟩ := h
 exact ⟨t, fr, (k.block _ (lt_of_heap hh)).trans hh⟩
theorem tab_get {s c : Nat} (hs : s < 10) (hc : c < 7) : tcells[s * 7 + c]? = some (.int .i64 (stp s c : Nat)) := by
 have hl : s * 7 + c < tab.length := by show _ < 70; omega
 have e : tab[s * 7 + c]? = some (stp s c) := by
   unfold stp
   rw [List.getD_eq_getElem?_getD, List.getElem?_eq_getElem hl]
   rfl
 unfold tcells
 rw [List.getElem?_toArray, List.getElem?_map, e]
 rfl
theorem Tab.at {w : World} (h : Tab w) {s c : Nat} (hs : s < 10) (hc : c < 7) : w.cell? ⟨0, s * 7 + c, none⟩ = some (.int .i64 (stp s c : Nat)) := by
 obtain ⟨t, fr, hh⟩ := h
 have := tab_get hs hc
 simp only [World.cell?, hh]
 simpa using this
set_option maxRecDepth 100000 in
set_option maxHeartbeats 1000000 in
theorem sign_any {w : World} {x : Nat} : Calls Tryz.prog 93 #[.int .u8 x] w fun e w' => e = .returned (.int .i64 (sg x)) ∧ w' = w := by
 have hk : x = 48 ∨ x = 49 ∨ x = 50 ∨ x = 51 ∨ x = 52 ∨ x = 53 ∨ x = 54 ∨ x = 55 ∨ x = 56 ∨ x = 57 ∨ x = 45 ∨ x = 43 ∨ x = 46 ∨ x = 101 ∨ x = 69 ∨
     (x ≠ 48 ∧ ¬ (49 ≤ x ∧ x ≤ 57) ∧ x ≠ 45 ∧ x ≠ 43 ∧ x ≠ 46 ∧ ¬ (x = 101 ∨ x = 69)) := by omega
 rcases hk with rfl | rfl | rfl | rfl | rfl | rfl | rfl | rfl | rfl | rfl | rfl | rfl | rfl | rfl | rfl | ⟨a1, a2, a3, a4, a5, a6⟩
 iterate 15
   · go_enter Tryz.func93, Tryz.ntmps93
     go_wp2_with fail
     go_ret
     exact ⟨rfl, rfl⟩
 have hsg : sg x = 0 := by
   unfold sg
   rw [if_neg a1, if_neg a2, if_neg a3, if_neg a4, if_neg a5, if_neg a6]
 have n1 : ((x : Int) == 48) = false := by simp; omega
 have n2 : ((x : Int) == 49) = false := by simp; omega
 have n3 : ((x : Int) == 50) = false := by simp; omega
 have n4 : ((x : Int) == 51) = false := by simp; omega
 have n5 : ((x : Int) == 52) = false := by simp; omega
 have n6 : ((x : Int) == 53) = false := by simp; omega
 have n7 : ((x : Int) == 54) = false := by simp; omega
 have n8 : ((x : Int) == 55) = false := by simp; omega
 have n9 : ((x : Int) == 56) = false := by simp; omega
 have n10 : ((x : Int) == 57) = false := by simp; omega
 have n11 : ((x : Int) == 45) = false := by simp; omega
 have n12 : ((x : Int) == 43) = false := by simp; omega
 have n13 : ((x : Int) == 46) = false := by simp; omega
 have n14 : ((x : Int) == 101) = false := by simp; omega
 have n15 : ((x : Int) == 69) = false := by simp; omega
 rw [hsg]
 clear a1 a2 a3 a4 a5 a6 hsg
 go_enter Tryz.func93, Tryz.ntmps93
 go_wp2_with fail
 go_ret
 exact ⟨rfl, rfl⟩
set_option maxRecDepth 100000 in
theorem mayEnd_any {w : World} {s : Nat} (hs : s < 10) : Calls Tryz.prog 94 #[.int .i64 s] w fun e w' => e = .returned (.bool (fin s)) ∧ w' = w := by
 have hk : s = 0 ∨ s = 1 ∨ s = 2 ∨ s = 3 ∨ s = 4 ∨ s = 5 ∨ s = 6 ∨ s = 7 ∨ s = 8 ∨ s = 9 := by omega
 rcases hk with rfl | rfl | rfl | rfl | rfl | rfl | rfl | rfl | rfl | rfl
 all_goals
   go_enter Tryz.func94, Tryz.ntmps94
   go_wp2_with fail
   go_ret
   exact ⟨rfl, rfl⟩
theorem dfa_stop {s i L : Nat} {l : List UInt8} (hs : 0 < s ∧ s < 10) (h : stp s (sg (nb l i)) = 0) : dfa s (l.drop i) i L = L := by
 have h0 : stp s 0 = 0 := by
   have : ∀ s : Fin 10, stp s.1 0 = 0 := by decide
   exact this ⟨s, hs.2⟩
 rw [dfa_at h0, if_pos h]
theorem dfa_go {s i L : Nat} {l : List UInt8} (hs : 0 < s ∧ s < 10) (h : stp s (sg (nb l i)) ≠ 0) : dfa s (l.drop i) i L = dfa (stp s (sg (nb l i))) (l.drop (i + 1)) (i + 1) (if fin (stp s (sg (nb l i))) then i + 1 else L) := by
 have h0 : stp s 0 = 0 := by
   have : ∀ s : Fin 10, stp s.1 0 = 0 := by decide
   exact this ⟨s, hs.2⟩
 rw [dfa_at h0, if_neg h]
set_option maxRecDepth 100000 in
set_option maxHeartbeats 2000000 in
theorem nscan_tab {w : World} (ho : Tab w) {l : List UInt8} (hl : l.length < 100000) :
   Calls Tryz.prog 66 #[.string (txt l)] w fun e w' => e = .returned (.int .i64 (scan l)) ∧ Below w.heap.size w w' := by
 have hs := txt_size l
 have hd0 := dfa_scan l
 go_enter Tryz.func66, Tryz.ntmps66
 go_wp2_with fail
 go_loopw [3, 4, 8] (fun L s i wr => ∃ (k st Lg : Nat), L = .int .i64 Lg ∧ s = .int .i64 st ∧ i = .int .i64 k ∧ k ≤ l.length ∧ (0 < st ∧ st < 10) ∧ dfa st (l.drop k) k Lg = scan l ∧ Below w.heap.size w wr) (fun _ _ i _ => l.length - (intOf i).toNat)
 case atStart => exact ⟨0, 1, 0, rfl, rfl, rfl, Nat.zero_le _, by decide, hd0, Below.refl _ _⟩
 case round =>
   clear hd0
   obtain ⟨k, st, Lg, rfl, rfl, rfl, hk, hst, hd, hbel⟩ := hrel
   have hT := ho.below hbel
   by_cases hlt : k < l.length
   · have hlt' : (k : Int) < (l.length : Int) := by omega
     have i1 := idx hlt
     have hc := sg_lt (nb l k)
     have hsl := stp_lt hst.2 hc
     have hcell := hT.at hst.2 hc
     have hsgn := fun wx => sign_any (w := wx) (x := nb l k)
     have hstop := dfa_stop (L := Lg) (i := k) (l := l) hst
     have hgo := dfa_go (L := Lg) (i := k) (l := l) hst
     generalize nb l k = x at *
     generalize hcx : sg x = c at *
     generalize hsx : stp st c = s2 at *
     have hst0 := hst.1
     have hst1 := hst.2
     have c1 : ((st : Int)) < 10 := by omega
     have c2 : ((c : Int)) < 7 := by omega
     have bd := below_drewN hbel 1
     have HGO := Lib.hid hgo
     have HSTOP := Lib.hid hstop
     have HD := Lib.hid hd
     have HH := Lib.hid hT
     clear hgo hstop hd hT ho hst
     go_wp2_with fail
     go_region_held3 (fun wx => wx.cell? ⟨0, st * 7 + c, none⟩ = some (.int .i64 (s2 : Nat)) ∧ Below w.heap.size w wx)
       (first | exact ⟨hcell, bd⟩ | assumption)
       (first | (go_at_call 93; refine (hsgn _).mono ?_; rintro e wx ⟨rfl, rfl⟩))
     clear hcell
     by_cases h0 : s2 = 0
     · have hL : Lg = scan l := (HSTOP.out h0).symm.trans HD.out
       have HL := Lib.hid hL
       subst h0
       clear HGO HSTOP HD hL hsx hcx
       go_wp2_with fail
       go_ret
       rw [HL.out]
       exact ⟨rfl, bd⟩
     · have h0' : ((s2 : Int) == 0) = false := by simp; omega
       have hme := mayEnd_any (w := World.drew wr) (s := s2) hsl
       have hd2 := (HGO.out h0).symm.trans HD.out
       have hpos : 0 < s2 := by omega
       clear HGO HSTOP HD hsx hcx
       cases hf : fin s2 with
       | true =>
         rw [hf] at hme
         rw [hf, if_pos rfl] at hd2
         have HD := Lib.hid hd2
         clear hd2 h0 hf
         go_wp2_with fail
         refine hme.mono ?_
         rintro e wx ⟨rfl, rfl⟩
         go_wp2_with fail
         go_roundw
         case rel => exact ⟨k + 1, s2, k + 1, by go_num, rfl, by go_num, by omega, ⟨hpos, hsl⟩, HD.out, bd⟩
         case measure => simp [intOf]; omega
       | false =>
         rw [hf] at hme
         rw [hf, if_neg (by simp)] at hd2
         have HD := Lib.hid hd2
         clear hd2 h0 hf
         go_wp2_with fail
         refine hme.mono ?_
         rintro e wx ⟨rfl, rfl⟩
         go_wp2_with fail
         go_roundw
         case rel => exact ⟨k + 1, s2, Lg, rfl, rfl, by go_num, by omega, ⟨hpos, hsl⟩, HD.out, bd⟩
         case measure => simp [intOf]; omega
   · obtain rfl : l.length = k := by omega
     rw [List.drop_length] at hd
     have hd' : Lg = scan l := by rw [← hd]; cases st <;> rfl
     have HD := Lib.hid hd'
     clear hd hd'
     go_wp2_with fail
     go_ret
     rw [HD.out]
     exact ⟨rfl, hbel⟩
end Go.Proofs.YtlfbnfphocpgeaaGreatDoor.Num
