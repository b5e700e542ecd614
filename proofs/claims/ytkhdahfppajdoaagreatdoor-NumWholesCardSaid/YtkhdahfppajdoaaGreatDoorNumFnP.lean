/- The contracts of package num as it landed: powerOf, cutPower, Parse; of strings.Cut at a point, and strings.Clone. Nothing is claimed here. -/
import Derived.Test.YtkhdahfppajdoaaGreatDoorNumFnR
import Derived.Test.YtkhdahfppajdoaaGreatDoorNumAt
import Derived.Test.YtkhdahfppajdoaaGreatDoorNumSl
import Derived.Test.YtkhdahfppajdoaaGreatDoorNumParse
import Derived.Test.YtkhdahfppajdoaaGreatDoorShelf
import Derived.Lib.MinMax
namespace Go.Proofs.YtkhdahfppajdoaaGreatDoor.Num
open Go.RowKit Kit

/-! the library's, at texts -/
theorem cutPre_any (l : List UInt8) (w : World) : Calls Tryz.prog 17 #[.string (txt l), .string ⟨#[45]⟩] w fun e w' => e = .returned (.tuple #[.string (txt (Lib.trimPrefix l [45])), .bool (Lib.hasPrefix l [45])]) ∧ w' = w := Tryz.strings_CutPrefix (txt l) ⟨#[45]⟩ w
theorem trimPre_any (l : List UInt8) (w : World) : Calls Tryz.prog 69 #[.string (txt l), .string ⟨#[43]⟩] w fun e w' => e = .returned (.string (txt (Lib.trimPrefix l [43]))) ∧ w' = w := Tryz.strings_TrimPrefix (txt l) ⟨#[43]⟩ w
theorem trimL_any (l : List UInt8) (w : World) : Calls Tryz.prog 20 #[.string (txt l), .string ⟨#[48]⟩] w fun e w' => e = .returned (.string (txt (l.dropWhile z48))) ∧ w' = w := by
  rw [← trim_l]
  exact Tryz.strings_TrimLeft_one (txt l) 48 (by decide) w
theorem trimR_any {l : List UInt8} (hl : l.length < 1000000) (w : World) (e : Int) : Calls Tryz.prog 21 #[.string (txt l), .string ⟨#[48]⟩] w fun r w' => r = .returned (.string (txt (strip l e).1)) ∧ w' = w := by
  rw [← trim_r l e]
  exact Tryz.strings_TrimRight_one (txt l) 48 (by decide) w (by rw [txt_size]; omega)
theorem idxAny_any {l : List UInt8} (hl : l.length < 1000000) (ha : ∀ c ∈ l, c.toNat < 128) (w : World) : Calls Tryz.prog 37 #[.string (txt l), .string ⟨#[101, 69]⟩] w fun e w' => e = .returned (.int .i64 (Lib.indexAny l [101, 69])) ∧ Below w.heap.size w w' :=
  Tryz.strings_IndexAny_laid (txt l) ⟨#[101, 69]⟩ w (by rw [txt_size]; omega) (by decide) (fun j b hb => ha b (List.mem_of_getElem? hb)) (fun j b hb => by
    have : b ∈ ([101, 69] : List UInt8) := List.mem_of_getElem? hb
    simp at this
    rcases this with rfl | rfl <;> decide)
theorem sidx_any (l : List UInt8) (w : World) : Calls Tryz.prog 70 #[.string (txt l), .string ⟨#[46]⟩] w fun e w' => e = .returned (.int .i64 (Lib.indexByte l 46)) ∧ w' = w := Tryz.stringslite_Index_one (txt l) 46 w

set_option maxRecDepth 100000 in
theorem clone_any {l : List UInt8} (hl : l.length < 1000000) {w : World} : Calls Tryz.prog 22 #[.string (txt l)] w fun e w' => e = .returned (.string (txt l)) ∧ Below w.heap.size w w' := by
  have h := Tryz.stringslite_Clone (txt l) w (by rw [txt_size]; omega)
  go_enter Tryz.func22, Tryz.ntmps22
  go_wp2_with fail
  refine h.mono ?_
  rintro e w1 ⟨rfl, k1⟩
  go_wp2_with fail
  go_ret
  exact ⟨rfl, k1⟩

/-- 'strings.Cut' of a mantissa at its point. -/
def fracP (F : List UInt8) : List UInt8 := F
set_option maxRecDepth 100000 in
theorem scut_any {I F : List UInt8} (hI : ∀ c ∈ I, dg c = true) (hl : (mantT I F).length < 1000000) {w : World} :
    Calls Tryz.prog 39 #[.string (txt (mantT I F)), .string ⟨#[46]⟩] w fun e w' => e = .returned (.tuple #[.string (txt I), .string (txt F), .bool (decide (F ≠ []))]) ∧ Below w.heap.size w w' := by
  have hx := sidx_any (mantT I F) w
  rw [point_at hI] at hx
  have hs := txt_size (mantT I F)
  by_cases h : F = []
  · subst h
    rw [if_pos rfl] at hx
    have hm : mantT I [] = I := by simp [mantT, fracT]
    have ht : (⟨#[]⟩ : ByteArray) = txt [] := rfl
    rw [hm] at hx hs ⊢
    clear hm
    go_enter Tryz.func39, Tryz.ntmps39
    go_wp2_with fail
    refine hx.mono ?_
    rintro e w1 ⟨rfl, rfl⟩
    go_wp2_with fail
    go_ret3
    exact ⟨rfl, Below.refl _ _⟩
  · rw [if_neg h] at hx
    have hm : mantT I F = I ++ (46 :: F) := by unfold mantT fracT; rw [if_neg h]
    have hlen : (mantT I F).length = I.length + (F.length + 1) := by rw [hm, List.length_append, List.length_cons]
    have s1 := slH (l := mantT I F) (z := (I.length : Int)) (k := I.length) rfl (by omega)
    have s2 := slL (l := mantT I F) (z := (I.length : Int) + 1) (k := I.length + 1) (by omega) (by omega)
    have e1 : (mantT I F).take I.length = I := by rw [hm, List.take_left]
    have e2 : (mantT I F).drop (I.length + 1) = F := by
      rw [hm, List.drop_append, List.drop_eq_nil_of_le (by omega), List.nil_append, show I.length + 1 - I.length = 1 by omega]
      rfl
    rw [e1] at s1
    rw [e2] at s2
    rw [decide_eq_true h]
    have hI0 : (0 : Int) ≤ (I.length : Int) := by omega
    have hw1 : IntKind.i64.wrap ((I.length : Int) + 1) = (I.length : Int) + 1 := IntWalk.i64_in _ (by omega)
    clear e1 e2 hm hlen
    generalize txt (mantT I F) = M at *
    go_enter Tryz.func39, Tryz.ntmps39
    go_wp2_with fail
    refine hx.mono ?_
    rintro e w1 ⟨rfl, rfl⟩
    go_wp2_with fail
    go_quiet (fail)
    all_goals go_wp2_with fail
    all_goals go_ret3
    all_goals exact ⟨rfl, below_drewN (Below.refl _ _) _⟩
set_option maxRecDepth 100000 in
theorem cut_any {I F : List UInt8} (hI : ∀ c ∈ I, dg c = true) (hl : (mantT I F).length < 1000000) {w : World} :
    Calls Tryz.prog 19 #[.string (txt (mantT I F)), .string ⟨#[46]⟩] w fun e w' => e = .returned (.tuple #[.string (txt I), .string (txt F), .bool (decide (F ≠ []))]) ∧ Below w.heap.size w w' := by
  have h := scut_any hI hl (w := w)
  generalize decide (F ≠ []) = b at *
  go_enter Tryz.func19, Tryz.ntmps19
  go_wp2_with fail
  refine h.mono ?_
  rintro e w1 ⟨rfl, k1⟩
  go_wp2_with fail
  go_ret3
  exact ⟨rfl, k1⟩

theorem trim_plus {s E : List UInt8} (hs : s = [] ∨ s = [43] ∨ s = [45]) (hE : ∀ c ∈ E, dg c = true) (h0 : E ≠ []) :
    Lib.trimPrefix (Lib.trimPrefix (s ++ E) [43]) [45] = E ∧ Lib.hasPrefix (Lib.trimPrefix (s ++ E) [43]) [45] = decide (s = [45]) := by
  obtain ⟨c, E', rfl⟩ := List.exists_cons_of_ne_nil h0
  have hc := dg_num (hE c (by simp))
  have h43 : (43 == c) = false := by
    rw [beq_eq_false_iff_ne]
    rintro rfl
    revert hc
    decide
  have h45 : (45 == c) = false := by
    rw [beq_eq_false_iff_ne]
    rintro rfl
    revert hc
    decide
  have p43 : Lib.hasPrefix (c :: E') [43] = false := by
    show List.isPrefixOf [43] (c :: E') = false
    simp [List.isPrefixOf, h43]
  have p45 : Lib.hasPrefix (c :: E') [45] = false := by
    show List.isPrefixOf [45] (c :: E') = false
    simp [List.isPrefixOf, h45]
  have t43 : Lib.trimPrefix (c :: E') [43] = c :: E' := by unfold Lib.trimPrefix; rw [p43]; rfl
  have t45 : Lib.trimPrefix (c :: E') [45] = c :: E' := by unfold Lib.trimPrefix; rw [p45]; rfl
  rcases hs with rfl | rfl | rfl
  · rw [List.nil_append, t43]
    exact ⟨t45, p45⟩
  · rw [show Lib.trimPrefix ([43] ++ c :: E') [43] = c :: E' from rfl]
    exact ⟨t45, p45⟩
  · exact ⟨rfl, rfl⟩

theorem powN_take {E : List UInt8} {k : Nat} (h : k < E.length) : powN (E.take (k + 1)) = min (10 * powN (E.take k) + (nb E k - 48)) capT := by
  rw [List.take_succ_eq_append_getElem h, powN_snoc, nb_get h]

set_option maxRecDepth 100000 in
set_option maxHeartbeats 1000000 in
theorem power_any {w : World} {s E : List UInt8} (hs : s = [] ∨ s = [43] ∨ s = [45]) (hE : ∀ c ∈ E, dg c = true) (h0 : E ≠ []) (hl : E.length < 1000000) :
    Calls Tryz.prog 38 #[.string (txt (s ++ E))] w fun e w' => e = .returned (.int .i64 (powZ s E)) ∧ w' = w := by
  have h1 := trimPre_any (s ++ E) w
  have h2 := cutPre_any (Lib.trimPrefix (s ++ E) [43]) w
  obtain ⟨e1, e2⟩ := trim_plus hs hE h0
  rw [e1, e2] at h2
  have hz := txt_size E
  clear e1 e2
  have hcap : ∀ k, powN (E.take k) ≤ 1099511627776 := fun k => powN_le _
  have hall : powN (E.take E.length) = powN E := by rw [List.take_length]
  have hres : powZ s E = if s = [45] then -(powN E : Int) else powN E := rfl
  have HRES := Lib.hid hres
  clear hres
  go_enter Tryz.func38, Tryz.ntmps38
  go_wp2_with fail
  refine h1.mono ?_
  rintro e w1 ⟨rfl, rfl⟩
  go_wp2_with fail
  refine h2.mono ?_
  rintro e w1 ⟨rfl, rfl⟩
  clear h1 h2
  go_wp2_with fail
  go_loopw [5, 15] (fun n i wr => ∃ k : Nat, n = .int .i64 (powN (E.take k)) ∧ i = .int .i64 k ∧ k ≤ E.length ∧ wr = w1) (fun _ i _ => E.length - (intOf i).toNat)
  case atStart => exact ⟨0, rfl, rfl, Nat.zero_le _, rfl⟩
  case round =>
    obtain ⟨k, rfl, rfl, hk, rfl⟩ := hrel
    by_cases hlt : k < E.length
    · have hlt' : (k : Int) < (E.length : Int) := by omega
      have i1 := idx hlt
      have hd := (digAt_dg hlt).2 (hE _ (List.getElem_mem hlt))
      unfold DigAt at hd
      have hp := powN_take hlt
      have hc1 := hcap k
      have hcc : capT = 1099511627776 := rfl
      rw [hcc] at hp
      generalize powN (E.take k) = p at *
      generalize hq : powN (E.take (k + 1)) = q at *
      generalize nb E k = x at *
      have m1 : IntKind.u8.wrap ((x : Int) - 48) = (x : Int) - 48 := IntWalk.u8_in _ (by omega)
      have m3 : min (wrap64 (10 * (p : Int) + wrap64 ((x : Int) - 48))) 1099511627776 = (q : Int) := by
        rw [IntWalk.wrap64_in ((x : Int) - 48) (by omega), IntWalk.wrap64_in _ (by omega)]
        omega
      have M3 := Lib.hid m3
      clear m3
      have HQ := Lib.hid hq
      clear hq hp hd
      go_wp2_with fail
      go_roundw
      case rel => exact ⟨k + 1, by rw [HQ.out, M3.out], by go_num, by omega, by first | trivial | rfl⟩
      case measure => simp [intOf]; omega
    · obtain rfl : E.length = k := by omega
      have hres := HRES.out
      rw [hall]
      by_cases h45 : s = [45]
      · rw [if_pos h45] at hres
        have HR := Lib.hid hres
        rw [decide_eq_true h45]
        have hn : IntKind.i64.wrap (-(powN E : Int)) = -(powN E : Int) := IntWalk.i64_in _ (by have := powN_le E; have hcc : capT = 1099511627776 := rfl; omega)
        clear h45 hall hcap hres HRES
        go_wp2_with fail
        go_ret
        rw [HR.out]
        exact ⟨rfl, rfl⟩
      · rw [if_neg h45] at hres
        have HR := Lib.hid hres
        rw [decide_eq_false h45]
        clear h45 hall hcap hres HRES
        go_wp2_with fail
        go_ret
        rw [HR.out]
        exact ⟨rfl, rfl⟩


theorem expT_len (x : Option (UInt8 × List UInt8 × List UInt8)) (I F : List UInt8) : (mantT I F).length + (expT x).length = (rest I F x).length := by unfold mantT rest; simp; omega
set_option maxRecDepth 100000 in
set_option maxHeartbeats 1000000 in
theorem cutPower_any {w : World} {I F : List UInt8} {x : Option (UInt8 × List UInt8 × List UInt8)} (h : Parts I F x) (hl : (rest I F x).length < 1000000) :
    Calls Tryz.prog 18 #[.string (txt (rest I F x))] w fun e w' => e = .returned (.tuple #[.string (txt (mantT I F)), .int .i64 (expZ x)]) ∧ Below w.heap.size w w' := by
  have hx := idxAny_any hl (rest_asc h) w
  have hlen := expT_len x I F
  have hs := txt_size (rest I F x)
  match x, h with
  | none, h =>
    obtain ⟨e1, e2⟩ := e_none h
    rw [e1] at hx hs ⊢
    rw [e2] at hx
    have hz : expZ none = 0 := rfl
    rw [hz]
    clear e1 e2 hlen
    generalize txt (mantT I F) = M at *
    go_enter Tryz.func18, Tryz.ntmps18
    go_wp2_with fail
    refine hx.mono ?_
    rintro e w1 ⟨rfl, k1⟩
    go_wp2_with fail
    go_ret2
    exact ⟨rfl, k1⟩
  | some (m, s, E), h =>
    obtain ⟨_, hss, hE0, hE⟩ := h.mark m s E rfl
    obtain ⟨e1, e2⟩ := e_some h
    rw [e1] at hx
    have hz : expZ (some (m, s, E)) = powZ s E := rfl
    rw [hz]
    have hl2 : (mantT I F).length + (1 + (s.length + E.length)) = (rest I F (some (m, s, E))).length := by rw [e2]; simp; omega
    have s1 := slH (l := rest I F (some (m, s, E))) (z := ((mantT I F).length : Int)) (k := (mantT I F).length) rfl (by omega)
    have s2 := slL (l := rest I F (some (m, s, E))) (z := ((mantT I F).length : Int) + 1) (k := (mantT I F).length + 1) (by omega) (by omega)
    have t1 : (rest I F (some (m, s, E))).take (mantT I F).length = mantT I F := by rw [e2, List.take_left]
    have t2 : (rest I F (some (m, s, E))).drop ((mantT I F).length + 1) = s ++ E := by
      rw [e2, List.drop_append, List.drop_eq_nil_of_le (by omega), List.nil_append, show (mantT I F).length + 1 - (mantT I F).length = 1 by omega]
      rfl
    rw [t1] at s1
    rw [t2] at s2
    have hp := fun wx => power_any (w := wx) hss hE hE0 (by omega)
    have hw1 : IntKind.i64.wrap (((mantT I F).length : Int) + 1) = ((mantT I F).length : Int) + 1 := IntWalk.i64_in _ (by omega)
    have h0 : decide (((mantT I F).length : Int) < 0) = false := by simp
    clear t1 t2 e1 e2 hz hlen hl2
    generalize powZ s E = pz at *
    generalize txt (rest I F (some (m, s, E))) = M at *
    generalize txt (s ++ E) = SE at *
    generalize txt (mantT I F) = MT at *
    generalize (mantT I F).length = ml at *
    go_enter Tryz.func18, Tryz.ntmps18
    go_wp2_with fail
    refine hx.mono ?_
    rintro e w1 ⟨rfl, k1⟩
    go_wp2_with fail
    go_region_held3 (fun wx => Below w.heap.size w wx)
      (first | exact below_drewN k1 1 | assumption)
      (first | (go_at_call 38; refine (hp _).mono ?_; rintro e wx ⟨rfl, rfl⟩))
    go_wp2_with fail
    go_ret2
    exact ⟨rfl, by assumption⟩
end Go.Proofs.YtkhdahfppajdoaaGreatDoor.Num
