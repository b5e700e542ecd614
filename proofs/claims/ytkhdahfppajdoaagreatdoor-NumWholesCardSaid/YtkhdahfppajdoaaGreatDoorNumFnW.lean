/- The contracts of num.Whole and num.Of as they landed. Nothing is claimed here. -/
import Derived.Test.YtkhdahfppajdoaaGreatDoorNumFn
import Derived.Test.YtkhdahfppajdoaaGreatDoorNumFnU
import Derived.Test.YtkhdahfppajdoaaGreatDoorNumOf
import Derived.Test.YtkhdahfppajdoaaGreatDoorNumWhole
import Derived.Lib.AtoiErrMem
namespace Go.Proofs.YtkhdahfppajdoaaGreatDoor.Num
open Go.RowKit Kit

theorem print_size (n : Dec) : (print n).length ≤ 1100 := by
  by_cases hR : Right n
  · obtain ⟨h1, h2, h3, -⟩ := right_exp hR
    have hn := negT_len n.neg
    have hd1 := digits_len n.exp.toNat 12 (by omega) (by omega)
    have hd2 := digits_len (-n.exp).toNat 12 (by omega) (by omega)
    unfold print
    rw [if_neg (not_not_intro hR)]
    by_cases c0 : n.dig = []
    · rw [if_pos c0]; simp
    rw [if_neg c0]
    by_cases c1 : 20 < n.exp
    · rw [if_pos c1]; simp only [List.length_append, List.length_cons]; omega
    rw [if_neg c1]
    by_cases c2 : n.exp < -20
    · rw [if_pos c2]; simp only [List.length_append, List.length_cons]; omega
    rw [if_neg c2]
    by_cases c3 : 0 ≤ n.exp
    · rw [if_pos c3]; simp only [List.length_append, noughts_len]; omega
    rw [if_neg c3]
    by_cases c4 : -n.exp < n.dig.length
    · rw [if_pos c4]; simp only [List.length_append, List.length_cons, List.length_take, List.length_drop]; omega
    · rw [if_neg c4]; simp only [List.length_append, List.length_cons, noughts_len]; omega
  · rw [print_wrong hR]; simp

/-! what the library parses -/
abbrev top : Nat := 18446744073709551615
theorem pu_digits : ∀ (d : List UInt8) (acc : Nat), (∀ c ∈ d, dg c = true) → acc ≤ top → Lib.parseUintM (2 ^ 64 - 1) acc d = if acc * 10 ^ d.length + valD d ≤ top then .ok (acc * 10 ^ d.length + valD d) else .range
  | [], acc, _, h => by
    simp only [List.length_nil, Nat.pow_zero, Nat.mul_one, show valD [] = 0 from rfl, Nat.add_zero]
    rw [if_pos h]
    rfl
  | c :: r, acc, hd, h => by
    have hc := dg_num (hd c (by simp))
    have e : acc * 10 ^ (c :: r).length + valD (c :: r) = (acc * 10 + (c.toNat - 48)) * 10 ^ r.length + valD r := by
      have hv := valR_app r.reverse [c]
      have hv2 : valD (c :: r) = (c.toNat - 48) * 10 ^ r.length + valD r := by
        rw [valD_eq, List.reverse_cons, hv, List.length_reverse, ← valD_eq]
        show _ + 10 ^ r.length * ((c.toNat - 48) + 10 * 0) = _
        rw [Nat.mul_zero, Nat.add_zero, Nat.mul_comm]
        omega
      rw [hv2, List.length_cons, Nat.pow_succ, Nat.add_mul, Nat.mul_assoc, Nat.mul_comm 10]
      omega
    have hp : 1 ≤ 10 ^ r.length := Nat.pow_pos (by omega)
    have hge : acc * 10 + (c.toNat - 48) ≤ (acc * 10 + (c.toNat - 48)) * 10 ^ r.length := Nat.le_mul_of_pos_right _ hp
    rw [e]
    unfold Lib.parseUintM
    rw [if_pos hc]
    by_cases c1 : 1844674407370955162 ≤ acc
    · rw [if_pos c1, if_neg (by unfold top; omega)]
    · rw [if_neg c1]
      by_cases c2 : 2 ^ 64 - 1 < acc * 10 + (c.toNat - 48)
      · rw [if_pos c2, if_neg (by unfold top; omega)]
      · rw [if_neg c2]
        exact pu_digits r _ (fun x hx => hd x (by simp [hx])) (by unfold top; omega)
/-- No number's text. -/
def Bad (e : Lib.NumEnd Nat) : Prop := ∀ v, e ≠ .ok v
theorem bad_range : Bad .range := fun v h => by cases h
theorem pu_other : ∀ (l : List UInt8) (acc : Nat), (∃ c ∈ l, dg c = false) → Bad (Lib.parseUintM (2 ^ 64 - 1) acc l)
  | [], _, h => by obtain ⟨c, hc, _⟩ := h; cases hc
  | c :: r, acc, h => by
    unfold Lib.parseUintM
    by_cases hc : 48 ≤ c.toNat ∧ c.toNat ≤ 57
    · rw [if_pos hc]
      have hr : ∃ x ∈ r, dg x = false := by
        obtain ⟨x, hx, hd⟩ := h
        rcases List.mem_cons.1 hx with rfl | hx
        · simp [dg, hc] at hd
        · exact ⟨x, hx, hd⟩
      split
      · exact bad_range
      · split
        · exact bad_range
        · exact pu_other r _ hr
    · rw [if_neg hc]
      intro v h
      cases h
theorem pu_bad {l : List UInt8} (h : ∃ c ∈ l, dg c = false) : Bad (Lib.parseUintB 64 l) := by
  have h0 : l ≠ [] := by rintro rfl; obtain ⟨c, hc, _⟩ := h; cases hc
  unfold Lib.parseUintB
  rw [if_neg h0]
  exact pu_other l 0 h
/-- What Whole makes of the print. -/
theorem whole_parse (n : Dec) : (∃ v : Nat, whole n = (v, true) ∧ Lib.parseUintB 64 (print n) = .ok v) ∨ (whole n = (0, false) ∧ Bad (Lib.parseUintB 64 (print n))) := by
  have hw : whole n = if Right n ∧ n.neg = false ∧ 0 ≤ n.exp ∧ n.exp + n.dig.length ≤ 20 ∧ W n ≤ 18446744073709551615 then (W n, true) else (0, false) := rfl
  by_cases hR : Right n
  · by_cases h0 : n.dig = []
    · have hz : n = zero := by
        have h1 := hR
        unfold Right at h1
        rw [if_pos h0] at h1
        cases n
        simp_all [zero]
      subst hz
      left
      exact ⟨0, by decide, by decide⟩
    · obtain ⟨hh, hn0, hnl, hd, hlen, he0, he1⟩ := right_head hR h0
      have hp : print n = if ¬ Right n then []
        else if n.dig = [] then [48]
        else if 20 < n.exp then negT n.neg ++ (n.dig ++ (101 :: digits n.exp.toNat))
        else if n.exp < -20 then negT n.neg ++ (n.dig ++ (101 :: 45 :: digits (-n.exp).toNat))
        else if 0 ≤ n.exp then negT n.neg ++ (n.dig ++ noughts n.exp.toNat)
        else if -n.exp < n.dig.length then negT n.neg ++ (n.dig.take (n.dig.length - (-n.exp).toNat) ++ (46 :: n.dig.drop (n.dig.length - (-n.exp).toNat)))
        else negT n.neg ++ (48 :: 46 :: (noughts ((-n.exp).toNat - n.dig.length) ++ n.dig)) := rfl
      rw [if_neg (not_not_intro hR), if_neg h0] at hp
      by_cases hg : n.neg = true
      · right
        refine ⟨by rw [hw, if_neg (by rw [hg]; simp)], pu_bad ⟨45, ?_, by decide⟩⟩
        rw [hp, hg]
        (repeat' split) <;> simp [negT]
      · have hg' : n.neg = false := by simpa using hg
        rw [hg'] at hp
        have hneg : negT false = [] := rfl
        rw [hneg] at hp
        simp only [List.nil_append] at hp
        by_cases c1 : 20 < n.exp
        · right
          refine ⟨by rw [hw, if_neg (by omega)], pu_bad ⟨101, ?_, by decide⟩⟩
          rw [hp, if_pos c1]
          simp
        · rw [if_neg c1] at hp
          by_cases c2 : n.exp < -20
          · right
            refine ⟨by rw [hw, if_neg (by omega)], pu_bad ⟨101, ?_, by decide⟩⟩
            rw [hp, if_pos c2]
            simp
          · rw [if_neg c2] at hp
            by_cases c3 : 0 ≤ n.exp
            · rw [if_pos c3] at hp
              have hall : ∀ c ∈ n.dig ++ noughts n.exp.toNat, dg c = true := by
                intro c hc
                rcases List.mem_append.1 hc with hc | hc
                · exact hd c hc
                · exact noughts_dg _ c hc
              have hv : valD (n.dig ++ noughts n.exp.toNat) = W n := by
                rw [valD_eq, List.reverse_append, show (noughts n.exp.toNat).reverse = noughts n.exp.toNat by simp [noughts], valR_zeros, ← valD_eq, Nat.mul_comm]
                rfl
              have hb : Lib.parseUintB 64 (print n) = if W n ≤ top then .ok (W n) else .range := by
                rw [hp]
                unfold Lib.parseUintB
                rw [if_neg (by simp [h0]), pu_digits _ 0 hall (by decide), Nat.zero_mul, Nat.zero_add, hv]
              by_cases c4 : W n ≤ top
              · left
                refine ⟨W n, ?_, by rw [hb, if_pos c4]⟩
                rw [hw, if_pos]
                refine ⟨hR, hg', c3, ?_, c4⟩
                by_cases c5 : n.exp + n.dig.length ≤ 20
                · exact c5
                · exfalso
                  have h1 := valD_ge h0 hd hn0
                  have h2 : 10 ^ (n.dig.length - 1) * 10 ^ n.exp.toNat ≤ W n := Nat.mul_le_mul_right _ h1
                  rw [← Nat.pow_add] at h2
                  have hpos := List.length_pos_iff.2 h0
                  have h3 := Nat.pow_le_pow_right (n := 10) (by omega) (show 20 ≤ n.dig.length - 1 + n.exp.toNat by omega)
                  have h4 : (10 : Nat) ^ 20 = 100000000000000000000 := by decide
                  unfold top at c4
                  omega
              · right
                exact ⟨by rw [hw, if_neg (fun e => c4 e.2.2.2.2)], by rw [hb, if_neg c4]; exact bad_range⟩
            · rw [if_neg c3] at hp
              right
              refine ⟨by rw [hw, if_neg (fun e => c3 e.2.2.1)], pu_bad ⟨46, ?_, by decide⟩⟩
              rw [hp]
              split <;> simp
  · right
    rw [print_wrong hR]
    exact ⟨by rw [hw, if_neg (fun e => hR e.1)], fun v h => by cases h⟩

/-! the walks -/
theorem var_below {w w' : World} {name : String} {cs : Array Value} (h : w.var? Tryz.prog name = some cs) (k : Below w.heap.size w w') : w'.var? Tryz.prog name = some cs := by
  unfold World.var? at *
  cases hg : Tryz.prog.globalNamed name with
  | none => rw [hg] at h; cases h
  | some g =>
    rw [hg] at h
    rw [← h]
    simp only [Option.bind_some] at h ⊢
    have hlt : g < w.heap.size := by
      by_cases c : g < w.heap.size
      · exact c
      · rw [Array.getElem?_eq_none (by omega)] at h
        cases h
    rw [k.block g hlt]
/-- What the errors' variables hold besides. -/
def OkW (w : World) : Prop := Ok w ∧ (∃ t p, w.var? Tryz.prog "strconv.ErrSyntax" = some #[.iface t p]) ∧ ∃ t p, w.var? Tryz.prog "strconv.ErrRange" = some #[.iface t p]
theorem OkW.below {w w' : World} (h : OkW w) (k : Below w.heap.size w w') : OkW w' := by
  obtain ⟨h1, ⟨t, p, h2⟩, ⟨t', p', h3⟩⟩ := h
  exact ⟨h1.below k, ⟨t, p, var_below h2 k⟩, ⟨t', p', var_below h3 k⟩⟩
/-- What ParseUint answers of the print: the number, or nought (or the greatest) and an error. -/
theorem parseU_any {w : World} (ho : OkW w) (n : Dec) : (∃ v : Nat, whole n = (v, true) ∧ Calls Tryz.prog 11 #[.string (txt (print n)), .int .i64 10, .int .i64 64] w fun e w' => e = .returned (.tuple #[.int .u64 v, .nilIface]) ∧ Below w.heap.size w w') ∨
    (whole n = (0, false) ∧ Calls Tryz.prog 11 #[.string (txt (print n)), .int .i64 10, .int .i64 64] w fun e w' => (∃ (x : Nat) (t : TypeId) (N : Nat), e = .returned (.tuple #[.int .u64 x, .iface t (.pointer (some ⟨N, 0, none⟩))])) ∧ Below w.heap.size w w') := by
  obtain ⟨-, ⟨t, p, h2⟩, ⟨t', p', h3⟩⟩ := ho
  have hz : (txt (print n)).size ≤ 1100 := by rw [txt_size]; exact print_size n
  rcases whole_parse n with ⟨v, e1, e2⟩ | ⟨e1, e2⟩
  · left
    refine ⟨v, e1, (Tryz.strconv_ParseUint_10_at64_ok (txt (print n)) (by omega) v e2 w).mono ?_⟩
    rintro e w' ⟨he, rfl | rfl⟩
    · exact ⟨he, Below.refl _ _⟩
    · exact ⟨he, Lib.bytesWorld_below _ _ _⟩
  · right
    refine ⟨e1, ?_⟩
    cases hr : Lib.parseUintB 64 (print n)
    · exact absurd hr (e2 _)
    · refine (Any.strconv_ParseUint_10_at64_syntax_var Tryz.laysPu14 (txt (print n)) (by omega) hr t p w h2).mono ?_
      rintro e w' ⟨N, he, _, _, k⟩
      exact ⟨⟨0, _, N, he⟩, k⟩
    · refine (Any.strconv_ParseUint_10_at64_range_var Tryz.laysPu14 (txt (print n)) (by omega) hr t' p' w h3).mono ?_
      rintro e w' ⟨N, he, _, _, k⟩
      exact ⟨⟨18446744073709551615, _, N, he⟩, k⟩

set_option maxRecDepth 100000 in
theorem nwhole_any {w : World} (ho : OkW w) {n : Dec} (hl : n.dig.length < 100000) :
    Calls Tryz.prog 5 #[numV n] w fun e w' => e = .returned (wholeV (whole n)) ∧ Below w.heap.size w w' := by
  have hS := box_new w (.bool n.neg) (.string (txt n.dig)) (.int .i64 n.exp)
  have hp := nprint_any (ho.below hS.2.2.2).1 hl
  have hpu := fun wx (h : OkW wx) => parseU_any h n
  obtain ⟨ng, l, ex⟩ := n
  generalize print ⟨ng, l, ex⟩ = pr at *
  generalize hwn : whole ⟨ng, l, ex⟩ = wn at *
  simp only [numV] at *
  have ho0 := ho.below hS.2.2.2
  clear hwn ho
  go_enter Tryz.func5, Tryz.ntmps5
  obtain ⟨x0, x1, x2, b0⟩ := hS
  go_wp2_with fail
  refine hp.mono ?_
  rintro e w1 ⟨rfl, k1⟩
  have b1 := b0.trans (k1.mono b0.size)
  have ho1 := ho0.below k1
  clear hp ho0 x0 x1 x2 b0 k1
  go_wp2_with fail
  rcases hpu _ ho1 with ⟨v, rfl, h⟩ | ⟨rfl, h⟩
  · refine h.mono ?_
    rintro e w2 ⟨rfl, k2⟩
    go_wp2_with fail
    go_ret2
    exact ⟨rfl, b1.trans (k2.mono b1.size)⟩
  · refine h.mono ?_
    rintro e w2 ⟨⟨x, t, N, rfl⟩, k2⟩
    go_wp2_with fail
    go_ret2
    exact ⟨rfl, b1.trans (k2.mono b1.size)⟩

theorem digits_short {v : Nat} (h : v < 18446744073709551616) : (digits v).length ≤ 20 := digits_len v 20 (by omega) (by omega)
set_option maxRecDepth 100000 in
theorem nof_any {w : World} (ho : Ok w) {v : Nat} (hv : v < 18446744073709551616) :
    Calls Tryz.prog 7 #[.int .u64 v] w fun e w' => e = .returned (numV (ofN v)) ∧ Below w.heap.size w w' := by
  have hA := World.alloc_heap_new w (.cells #[.bool false, .string (txt []), .int .i64 0] 23)
  have bA : Below w.heap.size w (w.alloc (.cells #[.bool false, .string (txt []), .int .i64 0] 23)) := (Below.refl _ w).alloc (Nat.le_refl _) _
  have ho0 := ho.below bA
  have hf := format_any hv ho0.2
  have hp := fun wx (h : Ok wx) => nparse_any h (l := digits v) (by have := digits_short hv; omega)
  have ht0 : (⟨#[]⟩ : ByteArray) = txt [] := rfl
  have ho' : ofN v = (parse (digits v)).1 := rfl
  rw [ho']
  generalize parse (digits v) = py at *
  obtain ⟨⟨ng, d, ex⟩, er⟩ := py
  simp only [parseV, numV] at *
  clear ho ho'
  go_enter Tryz.func7, Tryz.ntmps7
  go_wp2_with fail
  refine hf.mono ?_
  rintro e w1 ⟨rfl, k1⟩
  have hA1 := (k1.block _ (lt_of_heap hA)).trans hA
  have b1 := bA.trans (k1.mono bA.size)
  have ho1 := ho0.below k1
  clear hA bA ho0 k1 hf
  go_wp2_with fail
  refine (hp _ ho1).mono ?_
  rintro e w2 ⟨rfl, k2⟩
  have hA2 := (k2.block _ (lt_of_heap hA1)).trans hA1
  have b2 := b1.trans (k2.mono b1.size)
  clear hA1 b1 k2 ho1 hp
  have hA3 := new_of hA2 (.cells #[.bool ng, .string (txt d), .int .i64 ex] 23)
  have hB3 := World.alloc_heap_new w2 (.cells #[.bool ng, .string (txt d), .int .i64 ex] 23)
  have b3 := b2.alloc b2.size (.cells #[.bool ng, .string (txt d), .int .i64 ex] 23)
  have q0 := cell_of hA3 0
  have q1 := cell_of hA3 1
  have q2 := cell_of hA3 2
  have qf := free_of hA3
  have c0 := cell_of hB3 0
  have c1 := cell_of hB3 1
  have c2 := cell_of hB3 2
  have hne : ¬ w.heap.size = w2.heap.size := by have := lt_of_heap hA2; omega
  have hne' : ¬ w2.heap.size = w.heap.size := fun e => hne e.symm
  clear hA2 hA3 hB3 b2
  go_wp2_with fail
  refine bodyPost_ret (v := numV ⟨ng, d, ex⟩) (by simp [results, Tryz.results7, go_sem, numV, *]) rfl ⟨rfl, below_set3 b3 _ _ _⟩
end Go.Proofs.YtkhdahfppajdoaaGreatDoor.Num
