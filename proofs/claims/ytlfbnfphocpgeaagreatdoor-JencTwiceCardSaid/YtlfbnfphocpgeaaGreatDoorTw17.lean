/- A part of what twice_holds leans on (its texts, put together). Nothing is claimed here. -/
import Derived.Lib.Strings
import Derived.Lib.Bytealg
import Derived.Lib.IndexAny
import Derived.Lib.TrimByte
import Derived.Lib.Repeat
import Derived.Lib.Small
import Derived.Lib.ItoaNum
import Derived.Lib.Hide
import Derived.Deep.Cut
import Derived.Deep.RegionWith
import Derived.Deep.RegionHeld3
import Derived.Test.YtlfbnfphocpgeaaGreatDoorTw16
namespace Go.Proofs.YtlfbnfphocpgeaaGreatDoor.Num
open Go

/-! the text's parts -/
def rest (I F : List UInt8) (x : Option (UInt8 × List UInt8 × List UInt8)) : List UInt8 := I ++ (fracT F ++ expT x)
theorem head_not {I F : List UInt8} {x : Option (UInt8 × List UInt8 × List UInt8)} (h : Parts I F x) : ∃ c r, rest I F x = c :: r ∧ dg c = true := by
  obtain ⟨c, I', rfl⟩ := List.exists_cons_of_ne_nil h.ne
  exact ⟨c, I' ++ (fracT F ++ expT x), rfl, h.whole c (by simp)⟩
theorem cut_neg (n : Bool) {I F : List UInt8} {x : Option (UInt8 × List UInt8 × List UInt8)} (h : Parts I F x) :
    Lib.trimPrefix (text n I F x) [45] = rest I F x ∧ Lib.hasPrefix (text n I F x) [45] = n := by
  obtain ⟨c, r, e, hc⟩ := head_not h
  have hc' := dg_num hc
  have ht : text n I F x = negT n ++ (c :: r) := by rw [← e]; rfl
  rw [ht, e]
  cases n with
  | true => exact ⟨rfl, rfl⟩
  | false =>
    have h45 : (45 == c) = false := by
      rw [beq_eq_false_iff_ne]
      rintro rfl
      revert hc'
      decide
    have hp : Lib.hasPrefix (c :: r) [45] = false := by
      show List.isPrefixOf [45] (c :: r) = false
      simp [List.isPrefixOf, h45]
    refine ⟨?_, hp⟩
    show Lib.trimPrefix (c :: r) [45] = c :: r
    unfold Lib.trimPrefix
    rw [hp]
    rfl
theorem any_app {A B : List UInt8} (ch : List UInt8) (hA : ∀ c ∈ A, ch.contains c = false) : Lib.indexAny (A ++ B) ch = if Lib.indexAny B ch = -1 then -1 else A.length + Lib.indexAny B ch := by
  induction A with
  | nil => simp only [List.nil_append, List.length_nil]; split <;> omega
  | cons a A ih =>
    have hge := Lib.indexAny_ge ch B
    rw [List.cons_append, Lib.indexAny, hA a (by simp), ih (fun c hc => hA c (by simp [hc]))]
    by_cases h : Lib.indexAny B ch = -1
    · simp [h]
    · simp only [h, if_false, Bool.false_eq_true, List.length_cons]
      rw [if_neg (by simp; omega)]
      omega
theorem byte_app {A B : List UInt8} (ch : UInt8) (hA : ∀ c ∈ A, (c == ch) = false) : Lib.indexByte (A ++ B) ch = if Lib.indexByte B ch = -1 then -1 else A.length + Lib.indexByte B ch := by
  induction A with
  | nil => simp only [List.nil_append, List.length_nil]; split <;> omega
  | cons a A ih =>
    have hge := Lib.indexByte_ge B ch
    rw [List.cons_append, Lib.indexByte, hA a (by simp), ih (fun c hc => hA c (by simp [hc]))]
    by_cases h : Lib.indexByte B ch = -1
    · simp [h]
    · simp only [h, if_false, Bool.false_eq_true, List.length_cons]
      rw [if_neg (by simp; omega)]
      omega
def mantT (I F : List UInt8) : List UInt8 := I ++ fracT F
theorem mant_none {I F : List UInt8} (hI : ∀ c ∈ I, dg c = true) (hF : ∀ c ∈ F, dg c = true) : ∀ c ∈ mantT I F, ([101, 69] : List UInt8).contains c = false := by
  intro c hc
  have hd : dg c = true ∨ c = 46 := by
    unfold mantT fracT at hc
    rcases List.mem_append.1 hc with h | h
    · exact .inl (hI c h)
    · split at h
      · cases h
      · rcases List.mem_cons.1 h with h | h
        · exact .inr h
        · exact .inl (hF c h)
  rcases hd with h | rfl
  · have := dg_num h
    cases hh : ([101, 69] : List UInt8).contains c with
    | false => rfl
    | true =>
      exfalso
      simp at hh
      rcases hh with rfl | rfl <;> revert this <;> decide
  · rfl
theorem e_none {I F : List UInt8} (h : Parts I F none) : rest I F none = mantT I F ∧ Lib.indexAny (mantT I F) [101, 69] = -1 := by
  refine ⟨by simp [rest, mantT, expT], ?_⟩
  have := any_app (B := []) [101, 69] (mant_none h.whole h.frac)
  rw [List.append_nil] at this
  rw [this]
  rfl
theorem e_some {I F : List UInt8} {m : UInt8} {s E : List UInt8} (h : Parts I F (some (m, s, E))) :
    Lib.indexAny (rest I F (some (m, s, E))) [101, 69] = ((mantT I F).length : Nat) ∧ (rest I F (some (m, s, E))) = mantT I F ++ (m :: (s ++ E)) := by
  have e : rest I F (some (m, s, E)) = mantT I F ++ (m :: (s ++ E)) := by simp [rest, mantT, expT]
  refine ⟨?_, e⟩
  rw [e, any_app [101, 69] (mant_none h.whole h.frac)]
  have hm : Lib.indexAny (m :: (s ++ E)) [101, 69] = 0 := by
    rw [Lib.indexAny]
    rcases (h.mark m s E rfl).1 with rfl | rfl <;> rfl
  rw [hm]
  simp
theorem dg_asc {c : UInt8} (h : dg c = true) : c.toNat < 128 := by have := dg_num h; omega
theorem rest_asc {I F : List UInt8} {x : Option (UInt8 × List UInt8 × List UInt8)} (h : Parts I F x) : ∀ c ∈ rest I F x, c.toNat < 128 := by
  intro c hc
  unfold rest fracT at hc
  rcases List.mem_append.1 hc with hc | hc
  · exact dg_asc (h.whole c hc)
  rcases List.mem_append.1 hc with hc | hc
  · split at hc
    · cases hc
    · rcases List.mem_cons.1 hc with rfl | hc
      · decide
      · exact dg_asc (h.frac c hc)
  · match x, h with
    | none, _ => cases hc
    | some (m, s, E), h =>
      obtain ⟨hm, hs, hE, hd⟩ := h.mark m s E rfl
      rcases List.mem_cons.1 hc with rfl | hc
      · rcases hm with rfl | rfl <;> decide
      rcases List.mem_append.1 hc with hc | hc
      · rcases hs with rfl | rfl | rfl
        · cases hc
        · rw [List.mem_singleton] at hc; subst hc; decide
        · rw [List.mem_singleton] at hc; subst hc; decide
      · exact dg_asc (hd c hc)
theorem point_at {I F : List UInt8} (hI : ∀ c ∈ I, dg c = true) : Lib.indexByte (mantT I F) 46 = if F = [] then -1 else ((I.length : Nat) : Int) := by
  have hn : ∀ c ∈ I, (c == 46) = false := by
    intro c hc
    rw [beq_eq_false_iff_ne]
    rintro rfl
    have := dg_num (hI 46 hc)
    revert this
    decide
  unfold mantT
  rw [byte_app 46 hn]
  unfold fracT
  by_cases h : F = []
  · simp [h, Lib.indexByte]
  · simp [h, Lib.indexByte]
theorem trim_l (d : List UInt8) : Lib.trimLeftB d 48 = d.dropWhile z48 := by
  unfold Lib.trimLeftB
  congr 1
theorem trim_r (d : List UInt8) (e : Int) : Lib.trimRightB d 48 = (strip d e).1 := by
  unfold Lib.trimRightB strip
  congr 2

/-! the power -/
def capT : Nat := 1099511627776
def powN (E : List UInt8) : Nat := E.foldl (fun a c => min (10 * a + (c.toNat - 48)) capT) 0
def powZ (s E : List UInt8) : Int := if s = [45] then -(powN E : Int) else powN E
theorem powN_snoc (E : List UInt8) (c : UInt8) : powN (E ++ [c]) = min (10 * powN E + (c.toNat - 48)) capT := by simp [powN]
theorem powN_le (E : List UInt8) : powN E ≤ capT := by
  rcases List.eq_nil_or_concat E with rfl | ⟨E', c, rfl⟩
  · decide
  · rw [List.concat_eq_append, powN_snoc]
    exact Nat.min_le_right _ _
theorem pow_like (E : List UInt8) (hE : ∀ c ∈ E, dg c = true) (b : Bool) : ((E.foldl expStep (0, b)).2 = b) ∧ ((E.foldl expStep (0, b)).1 = powN E ∧ powN E < 10000000000 ∨ 1000000000 ≤ (E.foldl expStep (0, b)).1 ∧ (E.foldl expStep (0, b)).1 < 10000000000 ∧ 1000000000 ≤ powN E) := by
  obtain ⟨k, hk⟩ : ∃ k, E.length = k := ⟨_, rfl⟩
  induction k generalizing E with
  | zero =>
    obtain rfl := List.length_eq_zero_iff.1 hk
    exact ⟨rfl, .inl ⟨rfl, by decide⟩⟩
  | succ k ih0 =>
    obtain ⟨E', c, rfl⟩ : ∃ E' c, E = E' ++ [c] := by
      rcases List.eq_nil_or_concat E with rfl | ⟨E', c, rfl⟩
      · simp at hk
      · exact ⟨E', c, List.concat_eq_append⟩
    have ih := fun h => ih0 E' h (by simpa using hk)
    clear ih0 hk
    have hc := dg_num (hE c (by simp))
    have h45 : decide (c = 45) = false := by
      rw [decide_eq_false_iff_not]
      rintro rfl
      revert hc
      decide
    obtain ⟨i1, i2⟩ := ih (fun x hx => hE x (by simp [hx]))
    rw [List.foldl_append, powN_snoc, List.foldl_cons, List.foldl_nil]
    generalize E'.foldl expStep (0, b) = st at *
    generalize powN E' = pw at *
    obtain ⟨v, b'⟩ := st
    dsimp only at i1 i2
    subst i1
    have hcap : capT = 1099511627776 := rfl
    unfold expStep
    dsimp only
    rw [h45, Bool.or_false]
    refine ⟨rfl, ?_⟩
    by_cases hv : v < 1000000000
    · rw [if_pos ⟨hE c (by simp), hv⟩]
      rcases i2 with ⟨e, h⟩ | ⟨h, _⟩
      · subst e
        left
        omega
      · omega
    · rw [if_neg (fun e => hv e.2)]
      right
      rcases i2 with ⟨e, h⟩ | ⟨h1, h2, h3⟩
      · subst e; omega
      · omega
theorem strip_len (d : List UInt8) (e : Int) : (strip d e).1.length ≤ d.length ∧ (strip d e).2 = e + d.length - (strip d e).1.length := by
  obtain ⟨k, h1, h2, _⟩ := strip_val d e
  have := congrArg List.length h2
  rw [List.length_append, noughts_len] at this
  omega
theorem norm_far (n : Bool) (d : List UInt8) {e e' : Int} (hd : d.length < 1000000) (h : 10000000 < e ∧ 10000000 < e' ∨ e < -10000000 ∧ e' < -10000000) : norm n d e = norm n d e' := by
  have h1 : (strip d e).1 = (strip d e').1 := rfl
  obtain ⟨a1, a2⟩ := strip_len d e
  obtain ⟨b1, b2⟩ := strip_len d e'
  unfold norm
  rw [← h1]
  by_cases h0 : (strip d e).1 = []
  · rw [if_pos h0, if_pos h0]
  · rw [if_neg h0, if_neg h0]
    have n1 : ¬ Right ⟨n, (strip d e).1, (strip d e).2⟩ := by
      intro hr
      have := right_exp hr
      dsimp only at this
      omega
    have n2 : ¬ Right ⟨n, (strip d e).1, (strip d e').2⟩ := by
      intro hr
      have := right_exp hr
      dsimp only at this
      rw [← h1] at b2
      omega
    rw [if_neg n1, if_neg n2]
def expZ : Option (UInt8 × List UInt8 × List UInt8) → Int
  | none => 0
  | some (_, s, E) => powZ s E
theorem expo_parts (s E : List UInt8) (hs : s = [] ∨ s = [43] ∨ s = [45]) : expo (s ++ E) = E.foldl expStep (0, decide (s = [45])) := by
  unfold expo
  rw [List.foldl_append]
  rcases hs with rfl | rfl | rfl <;> rfl
theorem parse_prog (n : Bool) {I F : List UInt8} {x : Option (UInt8 × List UInt8 × List UInt8)} (h : Parts I F x) (hl : (text n I F x).length < 100000) :
    parse (text n I F x) = norm n ((I ++ F).dropWhile z48) (expZ x - F.length) := by
  have h0 := neg0_text n h
  have hs := scan_text n h
  have hm := mantL_text n h
  have hne : text n I F x ≠ [] := text_ne n h
  have hneg : decide (nb (text n I F x) 0 = 45) = n := by
    unfold neg0 at h0
    cases n with
    | true => rfl
    | false =>
      split at h0
      · cases h0
      · rename_i hh
        simp [hh]
  have hlF : F.length < 100000 ∧ ((I ++ F).dropWhile z48).length < 1000000 := by
    have h1 : ((I ++ F).dropWhile z48).length ≤ (I ++ F).length := (List.dropWhile_sublist _).length_le
    have h2 : (text n I F x).length = (negT n).length + (I.length + ((fracT F).length + (expT x).length)) := by simp [text]
    have h3 : F.length ≤ (fracT F).length := by unfold fracT; split <;> simp_all
    rw [List.length_append] at h1
    omega
  unfold parse
  rw [if_neg (by rw [hs]; simp [hne]), hm, mant_text h.whole h.frac, hneg, h0]
  have hdrop : (text n I F x).drop ((negT n).length + (I ++ fracT F).length + 1) = (expT x).drop 1 := by
    have e : text n I F x = (negT n ++ (I ++ fracT F)) ++ expT x := by simp [text]
    rw [e, ← List.length_append, List.drop_append, List.drop_eq_nil_of_le (by omega), List.nil_append]
    congr 1
    omega
  rw [hdrop]
  dsimp only
  match x, h with
  | none, _ =>
    show norm n _ (-(F.length : Int) + powOf (expo [])) = norm n _ (0 - (F.length : Int))
    congr 1
    show -(F.length : Int) + 0 = 0 - (F.length : Int)
    omega
  | some (m, s, E), h =>
    obtain ⟨_, hss, _, hE⟩ := h.mark m s E rfl
    show norm n _ (-(F.length : Int) + powOf (expo (s ++ E))) = norm n _ (powZ s E - (F.length : Int))
    rw [expo_parts s E hss]
    obtain ⟨p1, p2⟩ := pow_like E hE (decide (s = [45]))
    unfold powOf powZ
    rw [p1]
    generalize (E.foldl expStep (0, decide (s = [45]))).1 = v at *
    generalize powN E = v' at *
    by_cases c : s = [45]
    · rw [decide_eq_true c, if_pos c, if_pos rfl]
      rcases p2 with ⟨e, _⟩ | ⟨q1, q2, q3⟩
      · subst e
        congr 1
        omega
      · exact norm_far n _ hlF.2 (.inr ⟨by omega, by omega⟩)
    · rw [decide_eq_false c, if_neg c, if_neg (by simp)]
      rcases p2 with ⟨e, _⟩ | ⟨q1, q2, q3⟩
      · subst e
        congr 1
        omega
      · exact norm_far n _ hlF.2 (.inl ⟨by omega, by omega⟩)
end Go.Proofs.YtlfbnfphocpgeaaGreatDoor.Num
namespace Go.Proofs.YtlfbnfphocpgeaaGreatDoor.Num
open Go.RowKit Kit
def txt (l : List UInt8) : ByteArray := ⟨l.toArray⟩
theorem txt_size (l : List UInt8) : (txt l).size = l.length := by simp [txt, ByteArray.size]
theorem txt_data (s : ByteArray) : s = txt s.data.toList := by simp [txt]
theorem idx {l : List UInt8} {i : Nat} (h : i < l.length) (wx : World) : (Instr.index 9 (.string (txt l)) (.int .i64 (i : Int))).run Tryz.prog wx = .ok (.int .u8 (nb l i : Int)) wx := by
  have hs := txt_size l
  rw [run_index_string wx 9 (txt l) .i64 i Tryz.underlying9, dif_pos ⟨by omega, by omega⟩]
  congr 3
  unfold nb
  rw [List.getD_eq_getElem?_getD, List.getElem?_eq_getElem h]
  rfl
set_option maxRecDepth 100000 in
theorem digit_any {w : World} {l : List UInt8} {i : Nat} (_hl : l.length < 1000000000) :
    Calls Tryz.prog 85 #[.string (txt l), .int .i64 i] w fun e w' => e = .returned (.bool (decide (DigAt l i))) ∧ w' = w := by
  have hs := txt_size l
  by_cases h : i < l.length
  · have h1 := idx h
    have hlt : (i : Int) < (l.length : Int) := by omega
    generalize hx : nb l i = x at *
    have hd : decide (DigAt l i) = decide (48 ≤ x ∧ x ≤ 57) := decide_eq_decide.2 (by unfold DigAt; rw [hx])
    rw [hd]
    generalize (txt l) = s at *
    clear hx hd
    by_cases c1 : 48 ≤ x
    · have c1' : decide ((48 : Int) ≤ (x : Int)) = true := by simp; omega
      by_cases c2 : x ≤ 57
      · have c2' : decide ((x : Int) ≤ 57) = true := by simp; omega
        go_enter Tryz.func85, Tryz.ntmps85
        go_wp2_with fail
        go_ret
        simp [c1, c2]
      · have c2' : decide ((x : Int) ≤ 57) = false := by simp; omega
        go_enter Tryz.func85, Tryz.ntmps85
        go_wp2_with fail
        go_ret
        simp [c1, c2]
    · have c1' : decide ((48 : Int) ≤ (x : Int)) = false := by simp; omega
      go_enter Tryz.func85, Tryz.ntmps85
      go_wp2_with fail
      go_ret
      simp [c1]
  · have hlt : decide ((i : Int) < (l.length : Int)) = false := by simp; omega
    have hd : decide (DigAt l i) = false := by simp; intro e; exact h (digAt_lt e)
    rw [hd]
    go_enter Tryz.func85, Tryz.ntmps85
    go_wp2_with fail
    go_ret
    simp
end Go.Proofs.YtlfbnfphocpgeaaGreatDoor.Num
namespace Go.Proofs.YtlfbnfphocpgeaaGreatDoor.Num
open Go.RowKit Kit
def numV (n : Dec) : Value := .agg #[.bool n.neg, .string (txt n.dig), .int .i64 n.exp]
set_option maxRecDepth 100000 in
set_option maxHeartbeats 1000000 in
theorem right_any {w : World} {n : Dec} (hl : n.dig.length < 1000000000) :
    Calls Tryz.prog 83 #[numV n] w fun e w' => e = .returned (.bool (decide (Right n))) ∧ Below w.heap.size w w' := by
  obtain ⟨ng, l, ex⟩ := n
  simp only [numV]
  have hs := txt_size l
  have b0 : Below w.heap.size w (w.alloc (.cells #[.bool ng, .string (txt l), .int .i64 ex] 25)) := (Below.refl _ w).alloc (Nat.le_refl _) _
  by_cases h0 : l = []
  · subst h0
    have hR : decide (Right ⟨ng, [], ex⟩) = (!ng && decide (ex = 0)) := by unfold Right; cases ng <;> simp
    rw [hR]
    simp only [List.length_nil] at hs
    cases ng with
    | true =>
      go_enter Tryz.func83, Tryz.ntmps83
      go_wp2_with fail
      go_ret
      exact ⟨rfl, b0⟩
    | false =>
      by_cases h1 : ex = 0
      · subst h1
        go_enter Tryz.func83, Tryz.ntmps83
        go_wp2_with fail
        go_ret
        exact ⟨rfl, b0⟩
      · have h1' : (ex == 0) = false := by simp [h1]
        go_enter Tryz.func83, Tryz.ntmps83
        go_wp2_with fail
        go_ret
        exact ⟨by simp, b0⟩
  · have hn : 0 < l.length := by
      cases l with
      | nil => exact absurd rfl h0
      | cons _ _ => simp
    have hRi : Right ⟨ng, l, ex⟩ ↔ (l.length ≤ 1000 ∧ -10000 ≤ ex ∧ ex ≤ 10000 ∧ (∀ c ∈ l, dg c = true) ∧ nb l 0 ≠ 48 ∧ nb l (l.length - 1) ≠ 48) := by
      unfold Right; rw [if_neg h0]
    have hn' : ((l.length : Int) == 0) = false := by simp [h0]
    by_cases hb : l.length ≤ 1000 ∧ -10000 ≤ ex ∧ ex ≤ 10000
    · have c1 : decide ((1000 : Int) < (l.length : Int)) = false := by simp; omega
      have c2 : decide (ex < -10000) = false := by simp; omega
      have c3 : decide ((10000 : Int) < ex) = false := by simp; omega
      go_enter Tryz.func83, Tryz.ntmps83
      go_wp2_with fail
      go_loopw [3] (fun j wr => ∃ k : Nat, j = .int .i64 k ∧ k ≤ l.length ∧ (∀ c ∈ l.take k, dg c = true) ∧ wr = w.alloc (.cells #[.bool ng, .string (txt l), .int .i64 ex] 25)) (fun j _ => l.length - (intOf j).toNat)
      case atStart => exact ⟨0, rfl, Nat.zero_le _, by simp, rfl⟩
      case round =>
        obtain ⟨k, rfl, hk, hall, rfl⟩ := hrel
        by_cases hlt : k < l.length
        · have hlt' : (k : Int) < (l.length : Int) := by omega
          have hd := digit_any (w := w.alloc (.cells #[.bool ng, .string (txt l), .int .i64 ex] 25)) (l := l) (i := k) hl
          by_cases h : DigAt l k
          · rw [decide_eq_true h] at hd
            have hall2 : ∀ c ∈ l.take (k + 1), dg c = true := by
              rw [List.take_succ_eq_append_getElem hlt]
              intro c hc
              rcases List.mem_append.1 hc with hc | hc
              · exact hall c hc
              · rw [List.mem_singleton] at hc
                subst hc
                exact (digAt_dg hlt).1 h
            have HA := Lib.hid hall2
            clear hall hall2 h hRi
            go_wp2_with fail
            refine hd.mono ?_
            rintro e w1 ⟨rfl, rfl⟩
            go_wp2_with fail
            go_roundw
            case rel => exact ⟨k + 1, by go_num, by omega, HA.out, by first | trivial | rfl⟩
            case measure => simp [intOf]; omega
          · rw [decide_eq_false h] at hd
            have hR : decide (Right ⟨ng, l, ex⟩) = false := decide_eq_false (fun e => h ((digAt_dg hlt).2 ((hRi.1 e).2.2.2.1 _ (List.getElem_mem hlt))))
            have HR := Lib.hid hR
            clear hall h hRi hR
            go_wp2_with fail
            refine hd.mono ?_
            rintro e w1 ⟨rfl, rfl⟩
            go_wp2_with fail
            go_ret
            rw [HR.out]
            exact ⟨rfl, b0⟩
        · obtain rfl : k = l.length := by omega
          rw [List.take_length] at hall
          have i1 := idx hn
          rw [show ((0 : Nat) : Int) = 0 from rfl] at i1
          have i2 := idx (l := l) (i := l.length - 1) (by omega)
          have hci : ((l.length - 1 : Nat) : Int) = (l.length : Int) - 1 := by omega
          rw [hci] at i2
          by_cases h1 : nb l 0 = 48
          · have hR : decide (Right ⟨ng, l, ex⟩) = false := decide_eq_false (fun e => (hRi.1 e).2.2.2.2.1 h1)
            have HR := Lib.hid hR
            rw [h1] at i1
            clear hall hRi hR hci i2
            go_wp2_with fail
            go_ret
            rw [HR.out]
            exact ⟨rfl, b0⟩
          · have h1' : ((nb l 0 : Int) != 48) = true := by simp; omega
            by_cases h2 : nb l (l.length - 1) = 48
            · have hR : decide (Right ⟨ng, l, ex⟩) = false := decide_eq_false (fun e => (hRi.1 e).2.2.2.2.2 h2)
              have HR := Lib.hid hR
              rw [h2] at i2
              clear hall hRi hR hci
              go_wp2_with fail
              go_ret
              rw [HR.out]
              exact ⟨rfl, b0⟩
            · have h2' : ((nb l (l.length - 1) : Int) != 48) = true := by simp; omega
              have hR : decide (Right ⟨ng, l, ex⟩) = true := decide_eq_true (hRi.2 ⟨hb.1, hb.2.1, hb.2.2, hall, h1, h2⟩)
              have HR := Lib.hid hR
              generalize nb l (l.length - 1) = y at *
              generalize nb l 0 = x at *
              clear hall hRi hR hci
              go_wp2_with fail
              go_ret
              rw [HR.out]
              exact ⟨rfl, b0⟩
    · have hR : decide (Right ⟨ng, l, ex⟩) = false := decide_eq_false (fun e => hb ⟨(hRi.1 e).1, (hRi.1 e).2.1, (hRi.1 e).2.2.1⟩)
      have HR := Lib.hid hR
      have hc : (1000 : Int) < (l.length : Int) ∨ (decide ((1000 : Int) < (l.length : Int)) = false ∧ ex < -10000) ∨ (decide ((1000 : Int) < (l.length : Int)) = false ∧ decide (ex < -10000) = false ∧ (10000 : Int) < ex) := by
        simp
        omega
      clear hRi hR hb
      rcases hc with c1 | ⟨c1, c2⟩ | ⟨c1, c2, c3⟩
      all_goals
        go_enter Tryz.func83, Tryz.ntmps83
        go_wp2_with fail
        go_ret
        rw [HR.out]
        exact ⟨rfl, b0⟩
theorem one_text (w : World) (x : Int) (m : Nat) (hm : m < 256) (e : x = (m : Int)) : (convert 60 9 (.slice (some ⟨w.heap.size, 0, none⟩) 1 1)).run Tryz.prog (w.alloc (.cells #[.int .u8 x] 5)) = .ok (.string (txt [UInt8.ofNat m])) (w.alloc (.cells #[.int .u8 x] 5)) := by
  subst e
  have hx : Byt.Bs (w.alloc (.cells #[.int .u8 (m : Int)] 5)) (.slice (some ⟨w.heap.size, 0, none⟩) [m].length [m].length) [m] := Byt.bs_lit (World.alloc_heap_new w _) rfl (by simpa using hm)
  exact Byt.convert_text hx
theorem add_txt (a b : List UInt8) : txt a ++ txt b = txt (a ++ b) := by
  apply ByteArray.ext
  simp [txt]
theorem add_fit {a b : List UInt8} (ha : a.length < 1000000000000) (hb : b.length < 1000000000000) : ¬ (9223372036854775807 < (txt a).size + (txt b).size) := by
  have h1 := txt_size a
  have h2 := txt_size b
  omega
theorem one_text_after {W w1 : World} {x : Int} {g : Nat} (k : Below W.heap.size W w1) (h : W.heap[g]? = some (.cells #[.int .u8 x] 5 (0, 0))) (m : Nat) (hm : m < 256) (e : x = (m : Int)) :
    (convert 60 9 (.slice (some ⟨g, 0, none⟩) 1 1)).run Tryz.prog w1 = .ok (.string (txt [UInt8.ofNat m])) w1 := by
  subst e
  have hx : Byt.Bs W (.slice (some ⟨g, 0, none⟩) [m].length [m].length) [m] := Byt.bs_lit h rfl (by simpa using hm)
  exact Byt.convert_text (hx.below k)
end Go.Proofs.YtlfbnfphocpgeaaGreatDoor.Num
