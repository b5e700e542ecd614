/- What the laws' rows of layer 9 are given of the tables num.next and utf.kinds. The document's three examples of layer 9, told by the pure decoder. The walk of wakes of layer 9, over the contract of package jdec's Parse. The walk of JdecLong, over the contract of package jdec's Parse. The walk of JdecBlanks, over the contract of package jdec's Parse. Nothing is claimed here. -/
import Derived.Test.YtehpjidajmoggaaGreatDoorUtfLaid
import Derived.Test.YtehpjidajmoggaaGreatDoorJdecParse
import Derived.MakeChecks
import Derived.LaidMore
import Derived.Test.YtehpjidajmoggaaGreatDoorJdecParts
import Derived.Test.YtehpjidajmoggaaGreatDoorSeen
import Derived.Test.YtehpjidajmoggaaGreatDoorTreeSame
import Derived.Deep.OwnRows
namespace Go.Proofs.YtehpjidajmoggaaGreatDoor.Jdec
open Go.ChangeShapes Go.WideShapes Go.ChangeAt Go.RowKit Kit

theorem gNext : Tryz.prog.globalNamed "tabularium/num.next" = some 0 := by kernel_rfl
theorem tNext : (Tryz.prog.globals[0]?).map (·.type) = some 84 := by kernel_rfl
theorem plainNext : plainT Tryz.prog 5 84 = true := by kernel_rfl
theorem readsNext (W : World) : DataW.trod (fun _ => ()) Tryz.prog W 0 (fun _ => true) false 5 84 Num.tcells.toList = some (Rows.laid_tabularium_num_next, []) := by kernel_rfl
/-- One listed variable. -/
theorem listed {P : Program} {w : World} : ∀ {l : List (String × DataW Unit)} {ps : List MemPlace}, DataW.LaidVars P w l ps → ∀ {n : String} {d : DataW Unit}, (n, d) ∈ l →
    ∃ g t cs f p, P.globalNamed n = some g ∧ (P.globals[g]?).map (·.type) = some t ∧ w.var? P n = some cs ∧ DataW.trod (fun _ => ()) P w 0 (fun _ => true) false f t cs.toList = some (d, p)
  | [], _, _, _, _, hm => by cases hm
  | (n', d') :: r, ps, h, n, d, hm => by
    obtain ⟨g, t, cs, fuel, p, q, h1, h2, h3, h4, h5, _⟩ := h
    rcases List.mem_cons.1 hm with e | e
    · cases e
      exact ⟨g, t, cs, fuel, p, h1, h2, h3, h4⟩
    · exact listed h5 e
theorem laid_ok {W : World} {laid : List (String × DataW Unit)} (h : laidMetH Tryz.prog laid W) (hp : (laid.all fun x => x.2.handleName?.isNone) = true)
    (h1 : ("tabularium/num.next", Rows.laid_tabularium_num_next) ∈ laid) (h2 : ("tabularium/utf.kinds", Rows.laid_tabularium_utf_kinds) ∈ laid) : Ok W := by
  rw [MakeChecks.laidMetH_plain _ _ _ hp] at h
  obtain ⟨ps, hv, _⟩ := h
  constructor
  · obtain ⟨g, t, cs, f, p, hg, ht, hvr, hd⟩ := listed hv h2
    obtain rfl := Option.some.inj (Utf.gKinds.symm.trans hg)
    obtain rfl := Option.some.inj (Utf.tKinds.symm.trans ht)
    have e := trod_inj 5 150 _ _ _ _ _ _ _ Utf.plainKinds hd (Utf.readsKinds W)
    unfold World.var? at hvr
    rw [Utf.gKinds] at hvr
    simp only [Option.bind_some] at hvr
    split at hvr
    · rename_i c ty fr hh
      have : c = cs := Option.some.inj hvr
      subst this
      have : c = Utf.kcells := by
        rw [← Array.toArray_toList (xs := c), e]
      subst this
      exact ⟨_, _, hh⟩
    · cases hvr
  · obtain ⟨g, t, cs, f, p, hg, ht, hvr, hd⟩ := listed hv h1
    obtain rfl := Option.some.inj (gNext.symm.trans hg)
    obtain rfl := Option.some.inj (tNext.symm.trans ht)
    have e := trod_inj 5 84 _ _ _ _ _ _ _ plainNext hd (readsNext W)
    unfold World.var? at hvr
    rw [gNext] at hvr
    simp only [Option.bind_some] at hvr
    split at hvr
    · rename_i c ty fr hh
      have : c = cs := Option.some.inj hvr
      subst this
      have : c = Num.tcells := by
        rw [← Array.toArray_toList (xs := c), e]
      subst this
      exact ⟨_, _, hh⟩
    · cases hvr
end Go.Proofs.YtehpjidajmoggaaGreatDoor.Jdec
namespace Go.Proofs.YtehpjidajmoggaaGreatDoor.Jdec
open Tre (Val)

theorem wscan (r : List UInt8) : Quo.scan (34 :: 97 :: 34 :: r) = ⟨[97], 3, 0⟩ := by
  have hp : Quo.part (97 :: 34 :: r) = ⟨[97], 1, 0⟩ := by
    have h1 := Quo.part_lo (c := 97) (by decide) (34 :: r)
    rw [show Quo.esc 97 = [97] by decide] at h1
    exact h1
  unfold Quo.scan
  dsimp only
  rw [if_neg (by decide), Quo.scanF_step (p := ⟨[97], 1, 0⟩) (l' := 34 :: r) (by simp) hp rfl rfl, Quo.scanF_end rfl]
  rfl
def one : Val := ⟨3, false, ⟨false, [49], 0⟩, [], [], []⟩
def two : Val := ⟨3, false, ⟨false, [50], 0⟩, [], [], []⟩
theorem n1a : number [49, 44, 50, 93, 125] = .ok one [44, 50, 93, 125] := by
  have h1 : Num.scan [49, 44, 50, 93, 125] = 1 := by decide +kernel
  have h2 : Num.parse [49] = (⟨false, [49], 0⟩, 0) := by decide +kernel
  unfold number
  rw [h1]
  simp [h2, one]
theorem n2a : number [50, 93, 125] = .ok two [93, 125] := by
  have h1 : Num.scan [50, 93, 125] = 1 := by decide +kernel
  have h2 : Num.parse [50] = (⟨false, [50], 0⟩, 0) := by decide +kernel
  unfold number
  rw [h1]
  simp [h2, two]
theorem n1b : number [49, 44, 93] = .ok one [44, 93] := by
  have h1 : Num.scan [49, 44, 93] = 1 := by decide +kernel
  have h2 : Num.parse [49] = (⟨false, [49], 0⟩, 0) := by decide +kernel
  unfold number
  rw [h1]
  simp [h2, one]
theorem n1c : number [49, 44, 34, 97, 34, 58, 50, 125] = .ok one [44, 34, 97, 34, 58, 50, 125] := by
  have h1 : Num.scan [49, 44, 34, 97, 34, 58, 50, 125] = 1 := by decide +kernel
  have h2 : Num.parse [49] = (⟨false, [49], 0⟩, 0) := by decide +kernel
  unfold number
  rw [h1]
  simp [h2, one]
theorem val_num (K : Nat) {c : UInt8} {r : List UInt8} (h : digit c = true) : value (K + 1) (c :: r) = number (c :: r) := by
  have hb : begins c = true := by unfold begins; rw [h]; simp
  simp [value, hb, read, h]
theorem val_many (K : Nat) {c : UInt8} {r : List UInt8} (h : c = 91 ∨ c = 123) : value (K + 1) (c :: r) = many (value K) (c :: r) := by
  rcases h with rfl | rfl <;> rfl
theorem skip_id {c : UInt8} {r : List UInt8} (h : blank c = false) : skip (c :: r) = c :: r := by
  unfold skip
  rw [List.dropWhile_cons, if_neg (by rw [h]; decide)]
theorem val_bad (K : Nat) {c : UInt8} {r : List UInt8} (h : begins c = false) : value K (c :: r) = .no (c :: r) 3 := by
  cases K <;> simp [value, h]
theorem at_close (val : List UInt8 → Got Val) (obj first : Bool) (keys : List (List UInt8)) (kids : List Val) (r : List UInt8) : atHead val obj first keys kids (close obj :: r) = .ok (made obj keys kids) r := if_pos rfl
theorem at_first (val : List UInt8 → Got Val) {obj : Bool} (keys : List (List UInt8)) (kids : List Val) {c : UInt8} {r : List UInt8} (h : c ≠ close obj) : atHead val obj true keys kids (c :: r) = items val obj keys kids (c :: r) := by
  unfold atHead
  rw [if_neg (by simpa using h), if_pos rfl]
theorem at_comma (val : List UInt8 → Got Val) (obj : Bool) (keys : List (List UInt8)) (kids : List Val) (r : List UInt8) : atHead val obj false keys kids (44 :: r) = items val obj keys kids (skip r) := by
  have h1 : ¬ ((44 :: r).head? = some (close obj)) := by cases obj <;> simp [close]
  have h2 : ¬ (false = true) := by decide
  have h3 : ¬ ((44 :: r).head? ≠ some 44) := by simp
  unfold atHead
  rw [if_neg h1, if_neg h2, if_neg h3]
  rfl
theorem part_list {val : List UInt8 → Got Val} {keys : List (List UInt8)} {l r : List UInt8} {x : Val} (h : val l = .ok x r) : part val false keys l = .ok (keys, x) r := by
  unfold part
  rw [show named false keys l = .ok keys l from rfl]
  dsimp only
  rw [h]
theorem part_list_no {val : List UInt8 → Got Val} {keys : List (List UInt8)} {l r : List UInt8} {e : Nat} (h : val l = .no r e) : part val false keys l = .no r e := by
  unfold part
  rw [show named false keys l = .ok keys l from rfl]
  dsimp only
  rw [h]
theorem part_objs {val : List UInt8 → Got Val} {keys : List (List UInt8)} {l r1 r k : List UInt8} {x : Val} (hf : field keys l = .ok k r1) (h : val r1 = .ok x r) : part val true keys l = .ok (keys ++ [k], x) r := by
  unfold part
  rw [show named true keys l = (match field keys l with | .ok k r => .ok (keys ++ [k]) r | .no r e => .no r e) from rfl, hf]
  dsimp only
  rw [h]
theorem part_objs_no {val : List UInt8 → Got Val} {keys : List (List UInt8)} {l r : List UInt8} {e : Nat} (hf : field keys l = .no r e) : part val true keys l = .no r e := by
  unfold part
  rw [show named true keys l = (match field keys l with | .ok k r => .ok (keys ++ [k]) r | .no r e => .no r e) from rfl, hf]
theorem field_a (keys : List (List UInt8)) (hk : [97] ∉ keys) {c : UInt8} {r : List UInt8} (hc : blank c = false) : field keys (34 :: 97 :: 34 :: 58 :: c :: r) = .ok [97] (c :: r) := by
  rw [field_eq, wscan]
  dsimp only
  rw [if_neg (by decide), if_neg hk, show (34 :: 97 :: 34 :: 58 :: c :: r).drop 3 = 58 :: c :: r from rfl, skip_id (by decide), if_neg (by simp [wantE]), List.tail_cons, skip_id hc]
theorem field_twice {keys : List (List UInt8)} (hk : [97] ∈ keys) (r : List UInt8) : field keys (34 :: 97 :: 34 :: r) = .no (34 :: 97 :: 34 :: r) 6 := by
  rw [field_eq, wscan]
  dsimp only
  rw [if_neg (by decide), if_pos hk]
/-- [1,2] and what stands behind. -/
theorem wlist (K : Nat) : value (K + 2) [91, 49, 44, 50, 93, 125] = .ok (made false [] [one, two]) [125] := by
  rw [val_many (K + 1) (.inl rfl), many_head (obj := false) rfl, List.tail_cons, skip_id (by decide), at_first _ _ _ (by decide),
    items_ok (value_good (K + 1)) (part_list ((val_num K (by decide)).trans n1a)), skip_id (by decide), at_comma, skip_id (by decide),
    items_ok (value_good (K + 1)) (part_list ((val_num K (by decide)).trans n2a)), skip_id (by decide)]
  exact at_close _ false false [] [one, two] [125]
theorem wake1 : parse [123, 34, 97, 34, 58, 91, 49, 44, 50, 93, 125] = .ok (made true [[97]] [made false [] [one, two]]) [] := by
  have h : value 64 [123, 34, 97, 34, 58, 91, 49, 44, 50, 93, 125] = .ok (made true [[97]] [made false [] [one, two]]) [] := by
    rw [val_many 63 (.inr rfl), many_head (obj := true) rfl, List.tail_cons, skip_id (by decide), at_first _ _ _ (by decide),
      items_ok (value_good 63) (part_objs (field_a [] (by simp) (by decide)) (wlist 61)), skip_id (by decide)]
    exact at_close _ true false [[97]] _ []
  unfold parse
  rw [skip_id (by decide), h]
  rfl
theorem wake2 : parse [91, 49, 44, 93] = .no [93] 3 := by
  have h : value 64 [91, 49, 44, 93] = .no [93] 3 := by
    rw [val_many 63 (.inl rfl), many_head (obj := false) rfl, List.tail_cons, skip_id (by decide), at_first _ _ _ (by decide),
      items_ok (value_good 63) (part_list ((val_num 62 (by decide)).trans n1b)), skip_id (by decide), at_comma, skip_id (by decide),
      items_no _ _ (part_list_no (val_bad 63 (by decide)))]
  unfold parse
  rw [skip_id (by decide), h]
theorem wake3 : parse [123, 34, 97, 34, 58, 49, 44, 34, 97, 34, 58, 50, 125] = .no [34, 97, 34, 58, 50, 125] 6 := by
  have h : value 64 [123, 34, 97, 34, 58, 49, 44, 34, 97, 34, 58, 50, 125] = .no [34, 97, 34, 58, 50, 125] 6 := by
    rw [val_many 63 (.inr rfl), many_head (obj := true) rfl, List.tail_cons, skip_id (by decide), at_first _ _ _ (by decide),
      items_ok (value_good 63) (part_objs (field_a [] (by simp) (by decide)) ((val_num 62 (by decide)).trans n1c)), skip_id (by decide), at_comma, skip_id (by decide),
      items_no _ _ (part_objs_no (field_twice (by simp) _))]
  unfold parse
  rw [skip_id (by decide), h]
end Go.Proofs.YtehpjidajmoggaaGreatDoor.Jdec
namespace Go.Proofs.YtehpjidajmoggaaGreatDoor.Jdec
open Go.RowKit Kit Txt
open Tre (Val HoldF HoldV zeroV)

theorem wcall1 {w : World} (ho : Ok w) : Calls Tryz.prog 6 #[.string ⟨#[123, 34, 97, 34, 58, 91, 49, 44, 50, 93, 125]⟩] w fun e w' => (∃ (ak av : Option Addr) (lk lv ck cv : Nat), e = .returned (.tuple #[.agg #[.int .i64 6, .bool false, .bool false, .string ⟨#[]⟩, .int .i64 0, .string ⟨#[]⟩, .slice ak lk ck, .slice av lv cv], .int .i64 (-1), .int .i64 0])) ∧ Below w.heap.size w w' := by
  refine (jparse_all (w := w) (s := [123, 34, 97, 34, 58, 91, 49, 44, 50, 93, 125]) (by decide) ho).mono ?_
  rintro e w' ⟨k, h⟩
  rw [wake1] at h
  obtain ⟨y, rfl, hy⟩ := h
  obtain ⟨pk, ck, a, c, rfl⟩ := holdF_form hy
  exact ⟨⟨_, _, _, _, _, _, rfl⟩, k⟩
theorem wcall2 {w : World} (ho : Ok w) : Calls Tryz.prog 6 #[.string ⟨#[91, 49, 44, 93]⟩] w fun e w' => e = .returned (.tuple #[zeroV, .int .i64 3, .int .i64 3]) ∧ Below w.heap.size w w' := by
  refine (jparse_all (w := w) (s := [91, 49, 44, 93]) (by decide) ho).mono ?_
  rintro e w' ⟨k, h⟩
  rw [wake2] at h
  exact ⟨h, k⟩
theorem wcall3 {w : World} (ho : Ok w) : Calls Tryz.prog 6 #[.string ⟨#[123, 34, 97, 34, 58, 49, 44, 34, 97, 34, 58, 50, 125]⟩] w fun e w' => e = .returned (.tuple #[zeroV, .int .i64 7, .int .i64 6]) ∧ Below w.heap.size w w' := by
  refine (jparse_all (w := w) (s := [123, 34, 97, 34, 58, 49, 44, 34, 97, 34, 58, 50, 125]) (by decide) ho).mono ?_
  rintro e w' ⟨k, h⟩
  rw [wake3] at h
  exact ⟨h, k⟩

set_option maxRecDepth 100000 in
set_option maxHeartbeats 8000000 in
theorem wakes_any {w : World} (ho : Ok w) : Calls Tryz.prog 5 #[] w fun e w' => e = .returned (.bool true) ∧ Below w.heap.size w w' := by
  have h1 := Lib.hid (wcall1 ho)
  have h2 := Lib.hid (fun (wx : World) (h : Ok wx) => wcall2 h)
  have h3 := Lib.hid (fun (wx : World) (h : Ok wx) => wcall3 h)
  unfold zeroV at h2 h3
  go_enter Tryz.func5, Tryz.ntmps5
  go_wp2_with fail
  refine h1.out.mono ?_
  rintro e w1 ⟨⟨ak, av, lk, lv, ck, cv, rfl⟩, k1⟩
  have b1 := k1.alloc k1.size (.cells #[.int .i64 6, .bool false, .bool false, .string ⟨#[]⟩, .int .i64 0, .string ⟨#[]⟩, .slice ak lk ck, .slice av lv cv] 28)
  have hA := World.alloc_heap_new w1 (.cells #[.int .i64 6, .bool false, .bool false, .string ⟨#[]⟩, .int .i64 0, .string ⟨#[]⟩, .slice ak lk ck, .slice av lv cv] 28)
  have HB1 := Lib.hid b1
  have HA := Lib.hid hA
  clear b1 hA k1
  go_wp2_with fail
  refine (h2.out _ (ho.below HB1.out)).mono ?_
  rintro e w2 ⟨rfl, k2⟩
  have b2 := (HB1.out.trans (k2.mono HB1.out.size))
  have hA2 := (k2.block _ (by simp)).trans HA.out
  have b3 := b2.alloc b2.size (.cells #[.int .i64 0, .bool false, .bool false, .string ⟨#[]⟩, .int .i64 0, .string ⟨#[]⟩, .slice none 0 0, .slice none 0 0] 28)
  have hA3 := new_of hA2 (.cells #[.int .i64 0, .bool false, .bool false, .string ⟨#[]⟩, .int .i64 0, .string ⟨#[]⟩, .slice none 0 0, .slice none 0 0] 28)
  have HB3 := Lib.hid b3
  have HA3 := Lib.hid hA3
  clear b2 hA2 b3 hA3 k2
  go_wp2_with fail
  refine (h3.out _ (ho.below HB3.out)).mono ?_
  rintro e w4 ⟨rfl, k4⟩
  have b4 := (HB3.out.trans (k4.mono HB3.out.size))
  have hA4 := (k4.block _ (lt_of_heap HA3.out)).trans HA3.out
  have b5 := b4.alloc b4.size (.cells #[.int .i64 0, .bool false, .bool false, .string ⟨#[]⟩, .int .i64 0, .string ⟨#[]⟩, .slice none 0 0, .slice none 0 0] 28)
  obtain ⟨c0, -, -, -, -, -, -, -⟩ := eight hA4
  have hlt := lt_of_heap hA4
  have HB5 := Lib.hid b5
  clear b4 hA4 b5 k4
  go_wp2_with fail
  go_ret
  exact ⟨rfl, HB5.out⟩
end Go.Proofs.YtehpjidajmoggaaGreatDoor.Jdec
namespace Go.Proofs.YtehpjidajmoggaaGreatDoor.Jdec
open Go.RowKit Kit Txt
open Tre (Val HoldF HoldV zeroV none' rsame_any)

theorem made_bytes (n : Nat) : (madeCells #[.int .u8 0] n).toList = Byt.bytesV (List.replicate n 0) := by
  apply List.ext_getElem?
  intro i
  have hz : (madeCells #[Value.int .u8 0] n).size = n := size_madeCells _ _
  by_cases h : i < n
  · rw [Array.getElem?_toList, Array.getElem?_eq_getElem (by omega)]
    unfold Byt.bytesV
    rw [List.getElem?_map, List.getElem?_replicate, if_pos h]
    simp [madeCells, Nat.mod_one]
  · rw [List.getElem?_eq_none (by rw [Array.length_toList, hz]; omega), List.getElem?_eq_none (by rw [Byt.bytesV_len, List.length_replicate]; omega)]
theorem set_bytes {arr : Array Value} {l : List Nat} (h : arr.toList = Byt.bytesV l) (j x : Nat) : (arr.setIfInBounds j (.int .u8 (x : Int))).toList = Byt.bytesV (l.set j x) := by
  rw [Array.toList_setIfInBounds, h]
  unfold Byt.bytesV
  rw [List.map_set]
theorem zero_hold (w : World) : HoldV w zeroV none' := ⟨_, rfl, by
  show Tre.Hold w _ ⟨0, false, Num.zero, [], [], []⟩
  rw [Tre.Hold]
  exact ⟨_, none, 0, rfl, ⟨none, 0, rfl, Nat.le_refl _, by omega, .inl rfl⟩, Nat.le_refl _, by omega, .inl rfl⟩⟩
theorem same_true {w : World} {x y : Val} {u v : Value} (hx : HoldV w u x) (hy : HoldV w v y) (e : x = y) : Calls Tryz.prog 9 #[u, v] w fun e w' => e = .returned (.bool true) ∧ Below w.heap.size w w' :=
  (rsame_any x y w u v hx hy).mono fun _ _ ⟨⟨r, he, hr⟩, k⟩ => ⟨by rw [he, hr.2 e], k⟩

end Go.Proofs.YtehpjidajmoggaaGreatDoor.Jdec
namespace Go.Proofs.YtehpjidajmoggaaGreatDoor.Jdec
open Go.RowKit Kit Txt
open Tre (Val HoldF HoldV zeroV none' rsame_any)

theorem sl8 {l : List UInt8} {i j : Nat} (hi : i ≤ j) (hj : j ≤ l.length) (wx : World) : (Instr.slice 9 (.string (txt l)) (some (.int .u8 (i : Int))) (some (.int .u8 (j : Int))) none).run Tryz.prog wx = .ok (.string (txt ((l.drop i).take (j - i)))) wx := by
  have hs := txt_size l
  rw [run_slice_string (P := Tryz.prog) wx 9 (txt l) .u8 .u8 i j Tryz.underlying9 (by omega) (by omega) (by omega), txt_extract]
  simp
def fourL : List UInt8 := [32, 9, 13, 10]
theorem four_blank : ∀ r : _root_.Fin 4, blank (fourL.getD r.val 0) = true ∧ (fourL.drop r.val).take 1 = [fourL.getD r.val 0] := by decide +kernel

theorem ParseTold.form {s : List UInt8} {w : World} {e : Ending} {w' : World} (h : ParseTold s w e w') : ∃ (k : Int) (b : Bool) (n : Num.Dec) (t : List UInt8) (pk : Option Addr) (lk ck : Nat) (a : Option Addr) (lv c : Nat) (p ek : Int),
    e = .returned (.tuple #[.agg #[.int .i64 k, .bool b, .bool n.neg, .string (txt n.dig), .int .i64 n.exp, .string (txt t), .slice pk lk ck, .slice a lv c], .int .i64 p, .int .i64 ek]) := by
  obtain ⟨-, h⟩ := h
  cases hp : parse s with
  | ok v r =>
    rw [hp] at h
    obtain ⟨y, rfl, hy⟩ := h
    obtain ⟨pk, ck, a, c, rfl⟩ := holdF_form hy
    exact ⟨_, _, v.num, v.str, _, _, _, _, _, _, _, _, rfl⟩
  | no r k =>
    rw [hp] at h
    exact ⟨0, false, Num.zero, [], _, _, _, _, _, _, _, _, h⟩
theorem told_ok {s r : List UInt8} {v : Val} (hp : parse s = .ok v r) {w : World} {e : Ending} {w' : World} (h : ParseTold s w e w') : (∃ (pk ak : Option Addr) (ck cc : Nat), e = .returned (.tuple #[.agg #[.int .i64 v.kind, .bool v.is, .bool v.num.neg, .string (txt v.num.dig), .int .i64 v.num.exp, .string (txt v.str), .slice pk v.keys.length ck, .slice ak v.kids.length cc], .int .i64 (-1), .int .i64 0]) ∧ HoldV w' (.agg #[.int .i64 v.kind, .bool v.is, .bool v.num.neg, .string (txt v.num.dig), .int .i64 v.num.exp, .string (txt v.str), .slice pk v.keys.length ck, .slice ak v.kids.length cc]) v) ∧ Below w.heap.size w w' := by
  obtain ⟨k, h⟩ := h
  rw [hp] at h
  obtain ⟨y, rfl, hy⟩ := h
  obtain ⟨pk, ck, a, c, rfl⟩ := holdF_form hy
  exact ⟨⟨_, _, _, _, rfl, hy.hold⟩, k⟩
theorem told_no {s r : List UInt8} {n : Nat} (hp : parse s = .no r n) {w : World} {e : Ending} {w' : World} (h : ParseTold s w e w') : e = .returned (.tuple #[zeroV, .int .i64 ((s.length - r.length : Nat) : Int), .int .i64 n]) ∧ Below w.heap.size w w' := by
  obtain ⟨k, h⟩ := h
  rw [hp] at h
  exact ⟨h, k⟩

end Go.Proofs.YtehpjidajmoggaaGreatDoor.Jdec
