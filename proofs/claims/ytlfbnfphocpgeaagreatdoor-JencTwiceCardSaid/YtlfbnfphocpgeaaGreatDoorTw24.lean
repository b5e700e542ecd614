/- A part of what twice_holds leans on (its texts, put together). Nothing is claimed here. -/
import Derived.MakeChecks
import Derived.LaidMore
import Derived.Lib.Hide
import Derived.Deep.RegionWith
import Derived.Deep.RegionHeld3
import Derived.Test.YtlfbnfphocpgeaaGreatDoorTw4
import Derived.Test.YtlfbnfphocpgeaaGreatDoorTw8
namespace Go.Proofs.YtlfbnfphocpgeaaGreatDoor.Kit
open Go.ChangeShapes Go.WideShapes Go.ChangeAt Go.RowKit
def plainT (P : Program) : Nat → TypeId → Bool
  | 0, _ => false
  | f + 1, t => match P.underlying t with
    | some .bool => true
    | some (.int _) => true
    | some (.array n e) => plainT P f e && (n * P.cellsOf e == P.cellsOf t)
    | some (.struct fs) => fs.toList.all (fun x => plainT P f x.type) && (List.range (P.cellsOf t)).all (fun j => (List.range fs.size).any fun i => match fs[i]? with | some x => decide (x.offset ≤ j) && decide (j < x.offset + P.cellsOf x.type) | none => false)
    | _ => false
theorem chunk_at {cs ds : List Value} {o k j : Nat} (h : (cs.drop o).take k = (ds.drop o).take k) (h1 : o ≤ j) (h2 : j < o + k) : cs[j]? = ds[j]? := by
  have := congrArg (fun l => l[j - o]?) h
  simp only [List.getElem?_take, List.getElem?_drop] at this
  rw [if_pos (by omega), if_pos (by omega), show o + (j - o) = j by omega] at this
  exact this
theorem trod_inj {H : Type} {enc : TypeId × Value → H} {P : Program} {w : World} {base : Nat} {sp : Nat → Bool} {held : Bool} : ∀ (f : Nat) (t : TypeId) (a b : Nat) (cs ds : List Value) (d : DataW H) (p q : List MemPlace),
    plainT P f t = true → DataW.trod enc P w base sp held a t cs = some (d, p) → DataW.trod enc P w base sp held b t ds = some (d, q) → cs = ds
  | 0, _, _, _, _, _, _, _, _, h, _, _ => by simp [plainT] at h
  | f + 1, t, a, b, cs, ds, d, p, q, h, h1, h2 => by
    unfold plainT at h
    split at h
    · rename_i ht
      obtain ⟨x, rfl, e1⟩ := DataW.trod_bool ht h1
      obtain ⟨y, rfl, e2⟩ := DataW.trod_bool ht h2
      rw [Prod.mk.injEq] at e1 e2
      rw [e1.1] at e2
      have := e2.1
      simp at this
      rw [this]
    · rename_i k ht
      obtain ⟨x, rfl, e1, _⟩ := DataW.trod_int ht h1
      obtain ⟨y, rfl, e2, _⟩ := DataW.trod_int ht h2
      rw [Prod.mk.injEq] at e1 e2
      rw [e1.1] at e2
      have := e2.1
      simp at this
      rw [this]
    · rename_i n e ht
      rw [Bool.and_eq_true, beq_iff_eq] at h
      obtain ⟨xs, m, _, e1, l1, n1, k1⟩ := DataW.trod_array ht h1
      obtain ⟨ys, m', _, e2, l2, n2, k2⟩ := DataW.trod_array ht h2
      rw [Prod.mk.injEq] at e1 e2
      have he : xs.map (·.1) = ys.map (·.1) := by
        have := e1.1.symm.trans e2.1
        simpa using this
      refine List.ext_getElem? fun j => ?_
      by_cases hj : j < P.cellsOf t
      · have hk : 0 < P.cellsOf e := by
          rcases Nat.eq_zero_or_pos (P.cellsOf e) with h0 | h0
          · rw [h0] at h; omega
          · exact h0
        have hi : j / P.cellsOf e < n := by
          rw [Nat.div_lt_iff_lt_mul hk, h.2]; exact hj
        obtain ⟨x, hx⟩ : ∃ x, xs[j / P.cellsOf e]? = some x := ⟨_, List.getElem?_eq_getElem (by omega)⟩
        obtain ⟨y, hy⟩ : ∃ y, ys[j / P.cellsOf e]? = some y := ⟨_, List.getElem?_eq_getElem (by omega)⟩
        have r1 := (k1 _ hi).trans hx
        have r2 := (k2 _ hi).trans hy
        have hxy : x.1 = y.1 := by
          have := congrArg (fun l => l[j / P.cellsOf e]?) he
          simpa [hx, hy] using this
        obtain ⟨x1, x2⟩ := x
        obtain ⟨y1, y2⟩ := y
        obtain rfl : x1 = y1 := hxy
        have hc := trod_inj f e _ _ _ _ _ _ _ h.1 r1 r2
        have hm := Nat.div_add_mod j (P.cellsOf e)
        have hm2 := Nat.mod_lt j hk
        rw [Nat.mul_comm] at hm
        exact chunk_at hc (by omega) (by omega)
      · rw [List.getElem?_eq_none (by omega), List.getElem?_eq_none (by omega)]
    · rename_i fs ht
      rw [Bool.and_eq_true, List.all_eq_true, List.all_eq_true] at h
      obtain ⟨xs, m, _, e1, l1, n1, k1⟩ := DataW.trod_struct ht h1
      obtain ⟨ys, m', _, e2, l2, n2, k2⟩ := DataW.trod_struct ht h2
      rw [Prod.mk.injEq] at e1 e2
      have he : xs.map (·.1) = ys.map (·.1) := by
        have := e1.1.symm.trans e2.1
        simpa using this
      refine List.ext_getElem? fun j => ?_
      by_cases hj : j < P.cellsOf t
      · have hcov := h.2 j (List.mem_range.2 hj)
        rw [List.any_eq_true] at hcov
        obtain ⟨i, hi, hb⟩ := hcov
        split at hb
        · rename_i fd hfd
          rw [Bool.and_eq_true, decide_eq_true_eq, decide_eq_true_eq] at hb
          have hi' := List.mem_range.1 hi
          obtain ⟨x, hx⟩ : ∃ x, xs[i]? = some x := ⟨_, List.getElem?_eq_getElem (by omega)⟩
          obtain ⟨y, hy⟩ : ∃ y, ys[i]? = some y := ⟨_, List.getElem?_eq_getElem (by omega)⟩
          have r1 := (k1 i fd hfd).trans hx
          have r2 := (k2 i fd hfd).trans hy
          have hxy : x.1 = y.1 := by
            have := congrArg (fun l => l[i]?) he
            simpa [hx, hy] using this
          obtain ⟨x1, x2⟩ := x
          obtain ⟨y1, y2⟩ := y
          obtain rfl : x1 = y1 := hxy
          have hpl : plainT P f fd.type = true := h.1 fd (by
            have := Array.mem_of_getElem? hfd
            simpa using this)
          exact chunk_at (trod_inj f fd.type _ _ _ _ _ _ _ hpl r1 r2) hb.1 hb.2
        · cases hb
      · rw [List.getElem?_eq_none (by omega), List.getElem?_eq_none (by omega)]
    · cases h
end Go.Proofs.YtlfbnfphocpgeaaGreatDoor.Kit
namespace Go.Proofs.YtlfbnfphocpgeaaGreatDoor.Utf
open Go.ChangeShapes Go.WideShapes Go.ChangeAt Go.RowKit Kit
theorem gKinds : Tryz.prog.globalNamed "tabularium/utf.kinds" = some 5 := by kernel_rfl
theorem tKinds : (Tryz.prog.globals[5]?).map (·.type) = some 227 := by kernel_rfl
theorem plainKinds : plainT Tryz.prog 5 227 = true := by kernel_rfl
theorem readsKinds (W : World) : DataW.trod (fun _ => ()) Tryz.prog W 0 (fun _ => true) false 5 227 kcells.toList = some (Rows.laid_tabularium_utf_kinds, []) := by kernel_rfl
theorem laid_of {W : World} (h : laidMetH Tryz.prog [("tabularium/utf.kinds", Rows.laid_tabularium_utf_kinds)] W) : Laid W := by
  rw [MakeChecks.laidMetH_plain _ _ _ (by kernel_rfl)] at h
  obtain ⟨ps, ⟨g, t, cs, f, p, q, hg, ht, hv, hd, _⟩, _⟩ := h
  obtain rfl := Option.some.inj (gKinds.symm.trans hg)
  obtain rfl := Option.some.inj (tKinds.symm.trans ht)
  have e := trod_inj 5 227 _ _ _ _ _ _ _ plainKinds hd (readsKinds W)
  unfold World.var? at hv
  rw [gKinds] at hv
  simp only [Option.bind_some] at hv
  split at hv
  · rename_i c ty fr hh
    have : c = cs := Option.some.inj hv
    subst this
    have : c = kcells := by
      rw [← Array.toArray_toList (xs := c), e]
    subst this
    exact ⟨_, _, hh⟩
  · cases hv
end Go.Proofs.YtlfbnfphocpgeaaGreatDoor.Utf
namespace Go.Proofs.YtlfbnfphocpgeaaGreatDoor.Tre
open Go.RowKit Kit Txt
open Num (Dec zero)
theorem take_same {xs ys : List (List UInt8)} {j : Nat} (h1 : j < xs.length) (h2 : j < ys.length) (h : xs.take j = ys.take j) (e : xs[j] = ys[j]) : xs.take (j + 1) = ys.take (j + 1) := by
  rw [List.take_succ_eq_append_getElem h1, List.take_succ_eq_append_getElem h2, h, e]
theorem take_other {xs ys : List (List UInt8)} {j : Nat} (h1 : j < xs.length) (h2 : j < ys.length) (e : xs[j] ≠ ys[j]) : xs ≠ ys := by
  intro h
  subst h
  exact e rfl
set_option maxRecDepth 100000 in
set_option maxHeartbeats 4000000 in
theorem rtexts_any {w : World} {u v : Value} {xs ys : List (List UInt8)} (ha : Ks w u xs) (hb : Ks w v ys) : Calls Tryz.prog 27 #[u, v] w fun e w' => e = .returned (.bool (decide (xs = ys))) ∧ Below w.heap.size w w' := by
  obtain ⟨pa, ca, rfl, hca, hma, ha⟩ := ha
  obtain ⟨pb, cb, rfl, hcb, hmb, hb⟩ := hb
  by_cases hl : xs.length = ys.length
  · have hl' : (((xs.length : Nat) : Int) != ((ys.length : Nat) : Int)) = false := by rw [hl]; simp
    go_enter Tryz.func27, Tryz.ntmps27
    go_wp2_with fail
    go_loopw [5] (fun y wr => ∃ j : Nat, j ≤ xs.length ∧ y = .int .i64 j ∧ xs.take j = ys.take j ∧ Below w.heap.size w wr) (fun y _ => xs.length - (intOf y).toNat)
    case atStart => exact ⟨0, Nat.zero_le _, rfl, rfl, Below.refl _ _⟩
    case round =>
      obtain ⟨j, hj, rfl, hjt, bB⟩ := hrel
      by_cases hlt : j < xs.length
      · have hlt' : (j : Int) < (xs.length : Int) := by omega
        have hltb : j < ys.length := by omega
        have hltb' : (j : Int) < (ys.length : Int) := by omega
        rcases ha with rfl | ⟨ga, oa, rfl, hga, hxa⟩
        · exact absurd hlt (Nat.not_lt_zero _)
        rcases hb with rfl | ⟨gb, ob, rfl, hgb, hxb⟩
        · exact absurd hltb (Nat.not_lt_zero _)
        have c1 := (bB.cell (p := ⟨ga, oa + j, none⟩) hga).trans (hxa j _ (List.getElem?_eq_getElem hlt))
        have c2 := (bB.cell (p := ⟨gb, ob + j, none⟩) hgb).trans (hxb j _ (List.getElem?_eq_getElem hltb))
        have wk : IntKind.i64.wrap ((j : Int) + 1) = (j : Int) + 1 := by simp only [IntKind.wrap, IntKind.signed, IntKind.bits]; simp; omega
        by_cases he : xs[j] = ys[j]
        · have ht := take_same hlt hltb hjt he
          have HT := Lib.hid ht
          rw [← he] at c2
          generalize xs[j] = x at *
          clear ht hjt hxa hxb he
          go_wp2_with fail
          go_quiet (fail)
          go_wp2_with fail
          go_roundw
          case rel => exact ⟨j + 1, by omega, by go_num, HT.out, by first | exact bB | exact below_drewN bB _⟩
          case measure => simp [intOf]; omega
        · have hne := take_other hlt hltb he
          have n1 := txt_ne he
          have HN := Lib.hid (decide_eq_false hne)
          generalize xs[j] = x at *
          generalize ys[j] = y at *
          clear hxa hxb he hjt hne
          go_wp2_with fail
          go_quiet (fail)
          go_wp2_with fail
          go_ret
          exact ⟨by rw [HN.out]; rfl, by first | exact bB | exact below_drewN bB _⟩
      · obtain rfl : j = xs.length := by omega
        rw [List.take_length, hl, List.take_length] at hjt
        have HT := Lib.hid (decide_eq_true hjt)
        clear hjt
        go_wp2_with fail
        go_ret
        exact ⟨by rw [HT.out]; rfl, bB⟩
  · have hne : decide (xs = ys) = false := decide_eq_false fun e => hl (by rw [e])
    have hl' : (((xs.length : Nat) : Int) != ((ys.length : Nat) : Int)) = true := by simp; omega
    have HN := Lib.hid hne
    clear hne
    go_enter Tryz.func27, Tryz.ntmps27
    go_wp2_with fail
    go_ret
    exact ⟨by rw [HN.out]; rfl, Below.refl _ _⟩
end Go.Proofs.YtlfbnfphocpgeaaGreatDoor.Tre
namespace Go.Proofs.YtlfbnfphocpgeaaGreatDoor.Tre
open Go.RowKit Kit Txt
open Num (Dec zero)
set_option maxRecDepth 100000 in
set_option maxHeartbeats 8000000 in
theorem rsame_any : ∀ (x : Val) (y : Val) (w : World) (u v : Value), HoldV w u x → HoldV w v y → Calls Tryz.prog 11 #[u, v] w fun e w' => (∃ r : Bool, e = .returned (.bool r) ∧ (r = true ↔ x = y)) ∧ Below w.heap.size w w' := by
  refine ind1 fun x ih y w u v hx hy => ?_
  obtain ⟨k, b, n, s, ks, vs⟩ := x
  obtain ⟨k', b', n', s', ks', vs'⟩ := y
  obtain ⟨cs, rfl, hc⟩ := hx
  obtain ⟨cs', rfl, hc'⟩ := hy
  rw [Hold] at hc hc'
  obtain ⟨uk, a, c, rfl, hk, hcap, hmax, hv⟩ := hc
  obtain ⟨uk', a', c', rfl, hk', hcap', hmax', hv'⟩ := hc'
  show Calls Tryz.prog 11 #[.agg #[.int .i64 k, .bool b, .bool n.neg, .string (txt n.dig), .int .i64 n.exp, .string (txt s), uk, .slice a vs.length c], .agg #[.int .i64 k', .bool b', .bool n'.neg, .string (txt n'.dig), .int .i64 n'.exp, .string (txt s'), uk', .slice a' vs'.length c']] w _
  have hA := new_of (World.alloc_heap_new w (.cells #[.int .i64 k, .bool b, .bool n.neg, .string (txt n.dig), .int .i64 n.exp, .string (txt s), uk, .slice a vs.length c] 29)) (.cells #[.int .i64 k', .bool b', .bool n'.neg, .string (txt n'.dig), .int .i64 n'.exp, .string (txt s'), uk', .slice a' vs'.length c'] 29)
  have hB := World.alloc_heap_new (w.alloc (.cells #[.int .i64 k, .bool b, .bool n.neg, .string (txt n.dig), .int .i64 n.exp, .string (txt s), uk, .slice a vs.length c] 29)) (.cells #[.int .i64 k', .bool b', .bool n'.neg, .string (txt n'.dig), .int .i64 n'.exp, .string (txt s'), uk', .slice a' vs'.length c'] 29)
  rw [World.size_alloc] at hB
  have bA : Below w.heap.size w ((w.alloc (.cells #[.int .i64 k, .bool b, .bool n.neg, .string (txt n.dig), .int .i64 n.exp, .string (txt s), uk, .slice a vs.length c] 29)).alloc (.cells #[.int .i64 k', .bool b', .bool n'.neg, .string (txt n'.dig), .int .i64 n'.exp, .string (txt s'), uk', .slice a' vs'.length c'] 29)) := ((Below.refl _ w).alloc (Nat.le_refl _) _).alloc (by simp) _
  obtain ⟨c0, c1, c2, c3, c4, c5, c6, c7⟩ := eight hA
  obtain ⟨d0, d1, d2, d3, d4, d5, d6, d7⟩ := eight hB
  by_cases e1 : k = k'
  · by_cases e2 : b = b'
    · by_cases e3 : n = n'
      · subst e1; subst e2; subst e3
        clear c0 c1 c2 c3 c4 d0 d1 d2 d3 d4 c5 c6 c7 d5 d6 d7
        obtain ⟨c0, c1, c2, c3, c4, c5, c6, c7⟩ := eight hA
        obtain ⟨d0, d1, d2, d3, d4, d5, d6, d7⟩ := eight hB
        by_cases e4 : s = s'
        · subst e4
          have ht := fun wx (h : Below w.heap.size w wx) => rtexts_any (hk.below h) (hk'.below h)
          by_cases e5 : ks = ks'
          · subst e5
            simp only [decide_true] at ht
            by_cases e6 : vs.length = vs'.length
            · have ih' : ∀ x ∈ vs, ∀ (y : Val) (w : World) (u v : Value), HoldV w u x → HoldV w v y → Calls Tryz.prog 11 #[u, v] w fun e w' => (∃ r : Bool, e = .returned (.bool r) ∧ (r = true ↔ x = y)) ∧ Below w.heap.size w w' := ih
              clear ih c0 c1 c2 c3 c4 c5 c6 c7 d0 d1 d2 d3 d4 d5 d6 d7
              rw [← e6] at hA hB bA ⊢
              have HE := Lib.hid e6
              clear e6 hcap'
              obtain ⟨c0, c1, c2, c3, c4, c5, c6, c7⟩ := eight hA
              obtain ⟨d0, d1, d2, d3, d4, d5, d6, d7⟩ := eight hB
              go_enter Tryz.func11, Tryz.ntmps11
              go_wp2_with fail
              refine (ht _ bA).mono ?_
              rintro e w1 ⟨rfl, k1⟩
              have b1 := bA.trans (k1.mono bA.size)
              have hA1 := (k1.block _ (lt_of_heap hA)).trans hA
              have hB1 := (k1.block _ (lt_of_heap hB)).trans hB
              clear c0 c1 c2 c3 c4 c5 c6 c7 d0 d1 d2 d3 d4 d5 d6 d7 hA hB bA k1 ht
              obtain ⟨c0, c1, c2, c3, c4, c5, c6, c7⟩ := eight hA1
              obtain ⟨d0, d1, d2, d3, d4, d5, d6, d7⟩ := eight hB1
              go_wp2_with fail
              clear c0 c1 c2 c3 c4 c5 c6 c7 d0 d1 d2 d3 d4 d5 d6 d7
              go_loopw [5] (fun y wr => ∃ j : Nat, j ≤ vs.length ∧ y = .int .i64 j ∧ vs.take j = vs'.take j ∧
                wr.heap[w.heap.size]? = some (.cells #[.int .i64 k, .bool b, .bool n.neg, .string (txt n.dig), .int .i64 n.exp, .string (txt s), uk, .slice a vs.length c] 29 (0, 0)) ∧
                wr.heap[w.heap.size + 1]? = some (.cells #[.int .i64 k, .bool b, .bool n.neg, .string (txt n.dig), .int .i64 n.exp, .string (txt s), uk', .slice a' vs.length c'] 29 (0, 0)) ∧ Below w.heap.size w wr) (fun y _ => vs.length - (intOf y).toNat)
              case atStart => exact ⟨0, Nat.zero_le _, rfl, rfl, hA1, hB1, b1⟩
              case round =>
                obtain ⟨j, hj, rfl, hjt, hA2, hB2, bB⟩ := hrel
                obtain ⟨-, -, -, -, -, -, -, p7⟩ := eight hA2
                obtain ⟨-, -, -, -, -, -, -, q7⟩ := eight hB2
                by_cases hlt : j < vs.length
                · have hlt' : (j : Int) < (vs.length : Int) := by omega
                  have hltb : j < vs'.length := by rw [← HE.out]; exact hlt
                  rcases hv with rfl | ⟨ga, oa, rfl, hga, hxa⟩
                  · exact absurd hlt (Nat.not_lt_zero _)
                  rcases hv' with rfl | ⟨gb, ob, rfl, hgb, hxb⟩
                  · exact absurd hltb (Nat.not_lt_zero _)
                  obtain ⟨cx, hx8, hxx⟩ := Holds.at hxa (List.getElem?_eq_getElem hlt)
                  obtain ⟨cy, hy8, hyy⟩ := Holds.at hxb (List.getElem?_eq_getElem hltb)
                  have hx8 := hx8.below hga bB
                  have hy8 := hy8.below hgb bB
                  have hcall := fun wx u v => ih' vs[j] (List.getElem_mem hlt) vs'[j] wx u v
                  have hsnoc : vs[j] = vs'[j] → vs.take (j + 1) = vs'.take (j + 1) := fun e => by rw [List.take_succ_eq_append_getElem hlt, List.take_succ_eq_append_getElem hltb, hjt, e]
                  have hoff : vs[j] ≠ vs'[j] → vs ≠ vs' := fun e h => e (by subst h; rfl)
                  generalize vs[j] = x at *
                  generalize vs'[j] = y at *
                  obtain ⟨k1, b1', n1, s1, ks1, vs1⟩ := x
                  obtain ⟨k2, b2', n2, s2, ks2, vs2⟩ := y
                  have hxx2 := hxx
                  have hyy2 := hyy
                  rw [Hold] at hxx2 hyy2
                  obtain ⟨uk1, a1, c1, rfl, -, -, -, -⟩ := hxx2
                  obtain ⟨uk2, a2, c2, rfl, -, -, -, -⟩ := hyy2
                  obtain ⟨x0, x1, x2, x3, x4, x5, x6, x7⟩ := hx8.cells
                  obtain ⟨y0, y1, y2, y3, y4, y5, y6, y7⟩ := hy8.cells
                  have hcall' := hcall _ (.agg #[.int .i64 k1, .bool b1', .bool n1.neg, .string (txt n1.dig), .int .i64 n1.exp, .string (txt s1), uk1, .slice a1 vs1.length c1]) (.agg #[.int .i64 k2, .bool b2', .bool n2.neg, .string (txt n2.dig), .int .i64 n2.exp, .string (txt s2), uk2, .slice a2 vs2.length c2]) ⟨_, rfl, Hold.below (bB.trans (below_drewN (Below.refl _ _) 1 |>.mono bB.size)) _ hxx⟩ ⟨_, rfl, Hold.below (bB.trans (below_drewN (Below.refl _ _) 1 |>.mono bB.size)) _ hyy⟩
                  have wk : IntKind.i64.wrap ((j : Int) + 1) = (j : Int) + 1 := by simp only [IntKind.wrap, IntKind.signed, IntKind.bits]; simp; omega
                  have hgl := Nat.lt_of_lt_of_le hga bB.size
                  have hgl' := Nat.lt_of_lt_of_le hgb bB.size
                  have hal := lt_of_heap hA2
                  have hbl := lt_of_heap hB2
                  have HS := Lib.hid hsnoc
                  have HO := Lib.hid hoff
                  have HA := Lib.hid hA2
                  have HB := Lib.hid hB2
                  clear hx8 hy8 hxx hyy hcall hxa hxb hsnoc hoff hjt ih' hA2 hB2 hA1 hB1 hk hk'
                  go_wp2_with fail
                  go_region_held3 (fun wx => wx.cell? ⟨w.heap.size, 7, none⟩ = some (.slice (some ⟨ga, oa, none⟩) vs.length c) ∧ wx.cell? ⟨w.heap.size + 1, 7, none⟩ = some (.slice (some ⟨gb, ob, none⟩) vs.length c') ∧ wx.cell? ⟨ga, oa + j * 8, none⟩ = some (.int .i64 k1) ∧ wx.cell? ⟨ga, oa + j * 8 + 1, none⟩ = some (.bool b1') ∧ wx.cell? ⟨ga, oa + j * 8 + 2, none⟩ = some (.bool n1.neg) ∧ wx.cell? ⟨ga, oa + j * 8 + 3, none⟩ = some (.string (txt n1.dig)) ∧ wx.cell? ⟨ga, oa + j * 8 + 4, none⟩ = some (.int .i64 n1.exp) ∧ wx.cell? ⟨ga, oa + j * 8 + 5, none⟩ = some (.string (txt s1)) ∧ wx.cell? ⟨ga, oa + j * 8 + 6, none⟩ = some uk1 ∧ wx.cell? ⟨ga, oa + j * 8 + 7, none⟩ = some (.slice a1 vs1.length c1) ∧ wx.cell? ⟨gb, ob + j * 8, none⟩ = some (.int .i64 k2) ∧ wx.cell? ⟨gb, ob + j * 8 + 1, none⟩ = some (.bool b2') ∧ wx.cell? ⟨gb, ob + j * 8 + 2, none⟩ = some (.bool n2.neg) ∧ wx.cell? ⟨gb, ob + j * 8 + 3, none⟩ = some (.string (txt n2.dig)) ∧ wx.cell? ⟨gb, ob + j * 8 + 4, none⟩ = some (.int .i64 n2.exp) ∧ wx.cell? ⟨gb, ob + j * 8 + 5, none⟩ = some (.string (txt s2)) ∧ wx.cell? ⟨gb, ob + j * 8 + 6, none⟩ = some uk2 ∧ wx.cell? ⟨gb, ob + j * 8 + 7, none⟩ = some (.slice a2 vs2.length c2))
                    (first | assumption | go_keep)
                    (first | (go_at_call 11; refine hcall'.mono ?_; rintro e wx ⟨⟨r, rfl, hr⟩, kx⟩; have m0 := (kx.cell (World.block_lt_of_cell? _ _ p7)).trans p7; have m1 := (kx.cell (World.block_lt_of_cell? _ _ q7)).trans q7; have m2 := (kx.cell (World.block_lt_of_cell? _ _ x0)).trans x0; have m3 := (kx.cell (World.block_lt_of_cell? _ _ x1)).trans x1; have m4 := (kx.cell (World.block_lt_of_cell? _ _ x2)).trans x2; have m5 := (kx.cell (World.block_lt_of_cell? _ _ x3)).trans x3; have m6 := (kx.cell (World.block_lt_of_cell? _ _ x4)).trans x4; have m7 := (kx.cell (World.block_lt_of_cell? _ _ x5)).trans x5; have m8 := (kx.cell (World.block_lt_of_cell? _ _ x6)).trans x6; have m9 := (kx.cell (World.block_lt_of_cell? _ _ x7)).trans x7; have m10 := (kx.cell (World.block_lt_of_cell? _ _ y0)).trans y0; have m11 := (kx.cell (World.block_lt_of_cell? _ _ y1)).trans y1; have m12 := (kx.cell (World.block_lt_of_cell? _ _ y2)).trans y2; have m13 := (kx.cell (World.block_lt_of_cell? _ _ y3)).trans y3; have m14 := (kx.cell (World.block_lt_of_cell? _ _ y4)).trans y4; have m15 := (kx.cell (World.block_lt_of_cell? _ _ y5)).trans y5; have m16 := (kx.cell (World.block_lt_of_cell? _ _ y6)).trans y6; have m17 := (kx.cell (World.block_lt_of_cell? _ _ y7)).trans y7; have bx := (bB.trans (below_drewN (Below.refl _ _) 1 |>.mono bB.size)).trans (kx.mono bB.size); have hAx := (kx.block _ hal).trans HA.out; have hBx := (kx.block _ hbl).trans HB.out))
                  cases r with
                  | true =>
                    go_wp2_with fail
                    go_roundw
                    case rel => exact ⟨j + 1, by omega, by go_num, HS.out (hr.1 rfl), hAx, hBx, bx⟩
                    case measure => simp [intOf]; omega
                  | false =>
                    have hno := HO.out fun e => by have := hr.2 e; cases this
                    go_wp2_with fail
                    go_ret
                    exact ⟨⟨false, rfl, by simp; exact hno⟩, bx⟩
                · obtain rfl : j = vs.length := by omega
                  rw [List.take_length, HE.out, List.take_length] at hjt
                  have HT := Lib.hid hjt
                  clear hjt
                  go_wp2_with fail
                  go_ret
                  exact ⟨⟨true, rfl, by simp; exact HT.out⟩, bB⟩
            · have HN : ¬ (Val.mk k b n s ks vs = Val.mk k b n s ks vs') := fun e => e6 (by injection e with _ _ _ _ _ e; rw [e])
              have e6' : (((vs.length : Nat) : Int) == ((vs'.length : Nat) : Int)) = false := by simp; omega
              go_enter Tryz.func11, Tryz.ntmps11
              go_wp2_with fail
              refine (ht _ bA).mono ?_
              rintro e w1 ⟨rfl, k1⟩
              have b1 := bA.trans (k1.mono bA.size)
              have hA1 := (k1.block _ (lt_of_heap hA)).trans hA
              have hB1 := (k1.block _ (lt_of_heap hB)).trans hB
              obtain ⟨p0, p1, p2, p3, p4, p5, p6, p7⟩ := eight hA1
              obtain ⟨q0, q1, q2, q3, q4, q5, q6, q7⟩ := eight hB1
              go_wp2_with fail
              go_ret
              exact ⟨⟨false, rfl, by simp [HN]⟩, b1⟩
          · have HN : ¬ (Val.mk k b n s ks vs = Val.mk k b n s ks' vs') := fun e => e5 (by injection e)
            simp only [decide_eq_false e5] at ht
            go_enter Tryz.func11, Tryz.ntmps11
            go_wp2_with fail
            refine (ht _ bA).mono ?_
            rintro e w1 ⟨rfl, k1⟩
            have b1 := bA.trans (k1.mono bA.size)
            go_wp2_with fail
            go_ret
            exact ⟨⟨false, rfl, by simp [HN]⟩, b1⟩
        · have HN : ¬ (Val.mk k b n s ks vs = Val.mk k b n s' ks' vs') := fun e => e4 (by injection e)
          have e4' := txt_ne e4
          go_enter Tryz.func11, Tryz.ntmps11
          go_wp2_with fail
          go_ret
          exact ⟨⟨false, rfl, by simp [HN]⟩, bA⟩
      · have HN : ¬ (Val.mk k b n s ks vs = Val.mk k' b' n' s' ks' vs') := fun e => e3 (by injection e)
        subst e1; subst e2
        obtain ⟨g1, g2, g3⟩ := n
        obtain ⟨g1', g2', g3'⟩ := n'
        dsimp only at *
        have hd : (g1 == g1') = false ∨ (g1 = g1' ∧ ((txt g2).toList == (txt g2').toList) = false) ∨ (g1 = g1' ∧ g2 = g2' ∧ (g3 == g3') = false) := by
          by_cases f1 : g1 = g1'
          · by_cases f2 : g2 = g2'
            · by_cases f3 : g3 = g3'
              · exact absurd (by rw [f1, f2, f3]) e3
              · exact .inr (.inr ⟨f1, f2, by simpa using f3⟩)
            · exact .inr (.inl ⟨f1, txt_ne f2⟩)
          · exact .inl (by simpa using f1)
        clear e3
        rcases hd with h1 | ⟨rfl, h1⟩ | ⟨rfl, rfl, h1⟩
        all_goals
          go_enter Tryz.func11, Tryz.ntmps11
          go_wp2_with fail
          go_ret
          exact ⟨⟨false, rfl, by simp [HN]⟩, bA⟩
    · have HN : ¬ (Val.mk k b n s ks vs = Val.mk k' b' n' s' ks' vs') := fun e => e2 (by injection e)
      subst e1
      have e2' : (b == b') = false := by simpa using e2
      go_enter Tryz.func11, Tryz.ntmps11
      go_wp2_with fail
      go_ret
      exact ⟨⟨false, rfl, by simp [HN]⟩, bA⟩
  · have HN : ¬ (Val.mk k b n s ks vs = Val.mk k' b' n' s' ks' vs') := fun e => e1 (by injection e)
    have e1' : (k == k') = false := by simpa using e1
    go_enter Tryz.func11, Tryz.ntmps11
    go_wp2_with fail
    go_ret
    exact ⟨⟨false, rfl, by simp [HN]⟩, bA⟩
end Go.Proofs.YtlfbnfphocpgeaaGreatDoor.Tre
