/- The document's three examples of layer 9, told by the pure decoder. The walk of wakes of layer 9, over the contract of package jdec's Parse. The walk of JdecLong, over the contract of package jdec's Parse. Nothing is claimed here. -/
import Derived.Test.YtehpjidajmoggaaDoorJdecParts
import Derived.Test.YtehpjidajmoggaaDoorSeen
import Derived.Test.YtehpjidajmoggaaDoorJdecParse
import Derived.Test.YtehpjidajmoggaaDoorTreeSame
import Derived.Deep.OwnRows
namespace Go.Proofs.YtehpjidajmoggaaDoor.Jdec
open Tre (Val)

theorem wscan (r : List UInt8) : Quo.scan (34 :: 97 :: 34 :: r) = ⟨[97], 3, 0⟩ := by
  have hp : Quo.part (97 :: 34 :: r) = ⟨[97], 1, 0⟩ := by
    have h1 := Quo.part_lo (c := 97) (by decide) (34 :: r)
    rw [show Quo.esc 97 = [97] by decide] at h1
    exact h1
  unfold Quo.scan
  dsimp only
  rw [if_neg (by decide), Quo.scanF_step (p := ⟨[97], 1, 0⟩) (l' := 34 :: r) (by simp) hp rfl rfl, Quo.scanF_end rfl]
  rfl
def one : Val := ⟨3, false, ⟨false, [49], 0⟩, [], [], []⟩
def two : Val := ⟨3, false, ⟨false, [50], 0⟩, [], [], []⟩
theorem n1a : number [49, 44, 50, 93, 125] = .ok one [44, 50, 93, 125] := by
  have h1 : Num.scan [49, 44, 50, 93, 125] = 1 := by decide +kernel
  have h2 : Num.parse [49] = (⟨false, [49], 0⟩, 0) := by decide +kernel
  unfold number
  rw [h1]
  simp [h2, one]
theorem n2a : number [50, 93, 125] = .ok two [93, 125] := by
  have h1 : Num.scan [50, 93, 125] = 1 := by decide +kernel
  have h2 : Num.parse [50] = (⟨false, [50], 0⟩, 0) := by decide +kernel
  unfold number
  rw [h1]
  simp [h2, two]
theorem n1b : number [49, 44, 93] = .ok one [44, 93] := by
  have h1 : Num.scan [49, 44, 93] = 1 := by decide +kernel
  have h2 : Num.parse [49] = (⟨false, [49], 0⟩, 0) := by decide +kernel
  unfold number
  rw [h1]
  simp [h2, one]
theorem n1c : number [49, 44, 34, 97, 34, 58, 50, 125] = .ok one [44, 34, 97, 34, 58, 50, 125] := by
  have h1 : Num.scan [49, 44, 34, 97, 34, 58, 50, 125] = 1 := by decide +kernel
  have h2 : Num.parse [49] = (⟨false, [49], 0⟩, 0) := by decide +kernel
  unfold number
  rw [h1]
  simp [h2, one]
theorem val_num (K : Nat) {c : UInt8} {r : List UInt8} (h : digit c = true) : value (K + 1) (c :: r) = number (c :: r) := by
  have hb : begins c = true := by unfold begins; rw [h]; simp
  simp [value, hb, read, h]
theorem val_many (K : Nat) {c : UInt8} {r : List UInt8} (h : c = 91 ∨ c = 123) : value (K + 1) (c :: r) = many (value K) (c :: r) := by
  rcases h with rfl | rfl <;> rfl
theorem skip_id {c : UInt8} {r : List UInt8} (h : blank c = false) : skip (c :: r) = c :: r := by
  unfold skip
  rw [List.dropWhile_cons, if_neg (by rw [h]; decide)]
theorem val_bad (K : Nat) {c : UInt8} {r : List UInt8} (h : begins c = false) : value K (c :: r) = .no (c :: r) 3 := by
  cases K <;> simp [value, h]
theorem at_close (val : List UInt8 → Got Val) (obj first : Bool) (keys : List (List UInt8)) (kids : List Val) (r : List UInt8) : atHead val obj first keys kids (close obj :: r) = .ok (made obj keys kids) r := if_pos rfl
theorem at_first (val : List UInt8 → Got Val) {obj : Bool} (keys : List (List UInt8)) (kids : List Val) {c : UInt8} {r : List UInt8} (h : c ≠ close obj) : atHead val obj true keys kids (c :: r) = items val obj keys kids (c :: r) := by
  unfold atHead
  rw [if_neg (by simpa using h), if_pos rfl]
theorem at_comma (val : List UInt8 → Got Val) (obj : Bool) (keys : List (List UInt8)) (kids : List Val) (r : List UInt8) : atHead val obj false keys kids (44 :: r) = items val obj keys kids (skip r) := by
  have h1 : ¬ ((44 :: r).head? = some (close obj)) := by cases obj <;> simp [close]
  have h2 : ¬ (false = true) := by decide
  have h3 : ¬ ((44 :: r).head? ≠ some 44) := by simp
  unfold atHead
  rw [if_neg h1, if_neg h2, if_neg h3]
  rfl
theorem part_list {val : List UInt8 → Got Val} {keys : List (List UInt8)} {l r : List UInt8} {x : Val} (h : val l = .ok x r) : part val false keys l = .ok (keys, x) r := by
  unfold part
  rw [show named false keys l = .ok keys l from rfl]
  dsimp only
  rw [h]
theorem part_list_no {val : List UInt8 → Got Val} {keys : List (List UInt8)} {l r : List UInt8} {e : Nat} (h : val l = .no r e) : part val false keys l = .no r e := by
  unfold part
  rw [show named false keys l = .ok keys l from rfl]
  dsimp only
  rw [h]
theorem part_objs {val : List UInt8 → Got Val} {keys : List (List UInt8)} {l r1 r k : List UInt8} {x : Val} (hf : field keys l = .ok k r1) (h : val r1 = .ok x r) : part val true keys l = .ok (keys ++ [k], x) r := by
  unfold part
  rw [show named true keys l = (match field keys l with | .ok k r => .ok (keys ++ [k]) r | .no r e => .no r e) from rfl, hf]
  dsimp only
  rw [h]
theorem part_objs_no {val : List UInt8 → Got Val} {keys : List (List UInt8)} {l r : List UInt8} {e : Nat} (hf : field keys l = .no r e) : part val true keys l = .no r e := by
  unfold part
  rw [show named true keys l = (match field keys l with | .ok k r => .ok (keys ++ [k]) r | .no r e => .no r e) from rfl, hf]
theorem field_a (keys : List (List UInt8)) (hk : [97] ∉ keys) {c : UInt8} {r : List UInt8} (hc : blank c = false) : field keys (34 :: 97 :: 34 :: 58 :: c :: r) = .ok [97] (c :: r) := by
  rw [field_eq, wscan]
  dsimp only
  rw [if_neg (by decide), if_neg hk, show (34 :: 97 :: 34 :: 58 :: c :: r).drop 3 = 58 :: c :: r from rfl, skip_id (by decide), if_neg (by simp [wantE]), List.tail_cons, skip_id hc]
theorem field_twice {keys : List (List UInt8)} (hk : [97] ∈ keys) (r : List UInt8) : field keys (34 :: 97 :: 34 :: r) = .no (34 :: 97 :: 34 :: r) 6 := by
  rw [field_eq, wscan]
  dsimp only
  rw [if_neg (by decide), if_pos hk]
/-- [1,2] and what stands behind. -/
theorem wlist (K : Nat) : value (K + 2) [91, 49, 44, 50, 93, 125] = .ok (made false [] [one, two]) [125] := by
  rw [val_many (K + 1) (.inl rfl), many_head (obj := false) rfl, List.tail_cons, skip_id (by decide), at_first _ _ _ (by decide),
    items_ok (value_good (K + 1)) (part_list ((val_num K (by decide)).trans n1a)), skip_id (by decide), at_comma, skip_id (by decide),
    items_ok (value_good (K + 1)) (part_list ((val_num K (by decide)).trans n2a)), skip_id (by decide)]
  exact at_close _ false false [] [one, two] [125]
theorem wake1 : parse [123, 34, 97, 34, 58, 91, 49, 44, 50, 93, 125] = .ok (made true [[97]] [made false [] [one, two]]) [] := by
  have h : value 64 [123, 34, 97, 34, 58, 91, 49, 44, 50, 93, 125] = .ok (made true [[97]] [made false [] [one, two]]) [] := by
    rw [val_many 63 (.inr rfl), many_head (obj := true) rfl, List.tail_cons, skip_id (by decide), at_first _ _ _ (by decide),
      items_ok (value_good 63) (part_objs (field_a [] (by simp) (by decide)) (wlist 61)), skip_id (by decide)]
    exact at_close _ true false [[97]] _ []
  unfold parse
  rw [skip_id (by decide), h]
  rfl
theorem wake2 : parse [91, 49, 44, 93] = .no [93] 3 := by
  have h : value 64 [91, 49, 44, 93] = .no [93] 3 := by
    rw [val_many 63 (.inl rfl), many_head (obj := false) rfl, List.tail_cons, skip_id (by decide), at_first _ _ _ (by decide),
      items_ok (value_good 63) (part_list ((val_num 62 (by decide)).trans n1b)), skip_id (by decide), at_comma, skip_id (by decide),
      items_no _ _ (part_list_no (val_bad 63 (by decide)))]
  unfold parse
  rw [skip_id (by decide), h]
theorem wake3 : parse [123, 34, 97, 34, 58, 49, 44, 34, 97, 34, 58, 50, 125] = .no [34, 97, 34, 58, 50, 125] 6 := by
  have h : value 64 [123, 34, 97, 34, 58, 49, 44, 34, 97, 34, 58, 50, 125] = .no [34, 97, 34, 58, 50, 125] 6 := by
    rw [val_many 63 (.inr rfl), many_head (obj := true) rfl, List.tail_cons, skip_id (by decide), at_first _ _ _ (by decide),
      items_ok (value_good 63) (part_objs (field_a [] (by simp) (by decide)) ((val_num 62 (by decide)).trans n1c)), skip_id (by decide), at_comma, skip_id (by decide),
      items_no _ _ (part_objs_no (field_twice (by simp) _))]
  unfold parse
  rw [skip_id (by decide), h]
end Go.Proofs.YtehpjidajmoggaaDoor.Jdec
namespace Go.Proofs.YtehpjidajmoggaaDoor.Jdec
open Go.RowKit Kit Txt
open Tre (Val HoldF HoldV zeroV)

theorem wcall1 {w : World} (ho : Ok w) : Calls Tryd.prog 6 #[.string ⟨#[123, 34, 97, 34, 58, 91, 49, 44, 50, 93, 125]⟩] w fun e w' => (∃ (ak av : Option Addr) (lk lv ck cv : Nat), e = .returned (.tuple #[.agg #[.int .i64 6, .bool false, .bool false, .string ⟨#[]⟩, .int .i64 0, .string ⟨#[]⟩, .slice ak lk ck, .slice av lv cv], .int .i64 (-1), .int .i64 0])) ∧ Below w.heap.size w w' := by
  refine (jparse_all (w := w) (s := [123, 34, 97, 34, 58, 91, 49, 44, 50, 93, 125]) (by decide) ho).mono ?_
  rintro e w' ⟨k, h⟩
  rw [wake1] at h
  obtain ⟨y, rfl, hy⟩ := h
  obtain ⟨pk, ck, a, c, rfl⟩ := holdF_form hy
  exact ⟨⟨_, _, _, _, _, _, rfl⟩, k⟩
theorem wcall2 {w : World} (ho : Ok w) : Calls Tryd.prog 6 #[.string ⟨#[91, 49, 44, 93]⟩] w fun e w' => e = .returned (.tuple #[zeroV, .int .i64 3, .int .i64 3]) ∧ Below w.heap.size w w' := by
  refine (jparse_all (w := w) (s := [91, 49, 44, 93]) (by decide) ho).mono ?_
  rintro e w' ⟨k, h⟩
  rw [wake2] at h
  exact ⟨h, k⟩
theorem wcall3 {w : World} (ho : Ok w) : Calls Tryd.prog 6 #[.string ⟨#[123, 34, 97, 34, 58, 49, 44, 34, 97, 34, 58, 50, 125]⟩] w fun e w' => e = .returned (.tuple #[zeroV, .int .i64 7, .int .i64 6]) ∧ Below w.heap.size w w' := by
  refine (jparse_all (w := w) (s := [123, 34, 97, 34, 58, 49, 44, 34, 97, 34, 58, 50, 125]) (by decide) ho).mono ?_
  rintro e w' ⟨k, h⟩
  rw [wake3] at h
  exact ⟨h, k⟩

set_option maxRecDepth 100000 in
set_option maxHeartbeats 8000000 in
theorem wakes_any {w : World} (ho : Ok w) : Calls Tryd.prog 5 #[] w fun e w' => e = .returned (.bool true) ∧ Below w.heap.size w w' := by
  have h1 := Lib.hid (wcall1 ho)
  have h2 := Lib.hid (fun (wx : World) (h : Ok wx) => wcall2 h)
  have h3 := Lib.hid (fun (wx : World) (h : Ok wx) => wcall3 h)
  unfold zeroV at h2 h3
  go_enter Tryd.func5, Tryd.ntmps5
  go_wp2_with fail
  refine h1.out.mono ?_
  rintro e w1 ⟨⟨ak, av, lk, lv, ck, cv, rfl⟩, k1⟩
  have b1 := k1.alloc k1.size (.cells #[.int .i64 6, .bool false, .bool false, .string ⟨#[]⟩, .int .i64 0, .string ⟨#[]⟩, .slice ak lk ck, .slice av lv cv] 29)
  have hA := World.alloc_heap_new w1 (.cells #[.int .i64 6, .bool false, .bool false, .string ⟨#[]⟩, .int .i64 0, .string ⟨#[]⟩, .slice ak lk ck, .slice av lv cv] 29)
  have HB1 := Lib.hid b1
  have HA := Lib.hid hA
  clear b1 hA k1
  go_wp2_with fail
  refine (h2.out _ (ho.below HB1.out)).mono ?_
  rintro e w2 ⟨rfl, k2⟩
  have b2 := (HB1.out.trans (k2.mono HB1.out.size))
  have hA2 := (k2.block _ (by simp)).trans HA.out
  have b3 := b2.alloc b2.size (.cells #[.int .i64 0, .bool false, .bool false, .string ⟨#[]⟩, .int .i64 0, .string ⟨#[]⟩, .slice none 0 0, .slice none 0 0] 29)
  have hA3 := new_of hA2 (.cells #[.int .i64 0, .bool false, .bool false, .string ⟨#[]⟩, .int .i64 0, .string ⟨#[]⟩, .slice none 0 0, .slice none 0 0] 29)
  have HB3 := Lib.hid b3
  have HA3 := Lib.hid hA3
  clear b2 hA2 b3 hA3 k2
  go_wp2_with fail
  refine (h3.out _ (ho.below HB3.out)).mono ?_
  rintro e w4 ⟨rfl, k4⟩
  have b4 := (HB3.out.trans (k4.mono HB3.out.size))
  have hA4 := (k4.block _ (lt_of_heap HA3.out)).trans HA3.out
  have b5 := b4.alloc b4.size (.cells #[.int .i64 0, .bool false, .bool false, .string ⟨#[]⟩, .int .i64 0, .string ⟨#[]⟩, .slice none 0 0, .slice none 0 0] 29)
  obtain ⟨c0, -, -, -, -, -, -, -⟩ := eight hA4
  have hlt := lt_of_heap hA4
  have HB5 := Lib.hid b5
  clear b4 hA4 b5 k4
  go_wp2_with fail
  go_ret
  exact ⟨rfl, HB5.out⟩
end Go.Proofs.YtehpjidajmoggaaDoor.Jdec
namespace Go.Proofs.YtehpjidajmoggaaDoor.Jdec
open Go.RowKit Kit Txt
open Tre (Val HoldF HoldV zeroV none' rsame_any)

theorem made_bytes (n : Nat) : (madeCells #[.int .u8 0] n).toList = Byt.bytesV (List.replicate n 0) := by
  apply List.ext_getElem?
  intro i
  have hz : (madeCells #[Value.int .u8 0] n).size = n := size_madeCells _ _
  by_cases h : i < n
  · rw [Array.getElem?_toList, Array.getElem?_eq_getElem (by omega)]
    unfold Byt.bytesV
    rw [List.getElem?_map, List.getElem?_replicate, if_pos h]
    simp [madeCells, Nat.mod_one]
  · rw [List.getElem?_eq_none (by rw [Array.length_toList, hz]; omega), List.getElem?_eq_none (by rw [Byt.bytesV_len, List.length_replicate]; omega)]
theorem set_bytes {arr : Array Value} {l : List Nat} (h : arr.toList = Byt.bytesV l) (j x : Nat) : (arr.setIfInBounds j (.int .u8 (x : Int))).toList = Byt.bytesV (l.set j x) := by
  rw [Array.toList_setIfInBounds, h]
  unfold Byt.bytesV
  rw [List.map_set]
theorem zero_hold (w : World) : HoldV w zeroV none' := ⟨_, rfl, by
  show Tre.Hold w _ ⟨0, false, Num.zero, [], [], []⟩
  rw [Tre.Hold]
  exact ⟨_, none, 0, rfl, ⟨none, 0, rfl, Nat.le_refl _, by omega, .inl rfl⟩, Nat.le_refl _, by omega, .inl rfl⟩⟩
theorem same_true {w : World} {x y : Val} {u v : Value} (hx : HoldV w u x) (hy : HoldV w v y) (e : x = y) : Calls Tryd.prog 8 #[u, v] w fun e w' => e = .returned (.bool true) ∧ Below w.heap.size w w' :=
  (rsame_any x y w u v hx hy).mono fun _ _ ⟨⟨r, he, hr⟩, k⟩ => ⟨by rw [he, hr.2 e], k⟩

set_option maxRecDepth 100000 in
set_option maxHeartbeats 8000000 in
theorem long_law {w : World} (ho : Ok w) {m c : Int} (hm0 : 0 ≤ m) (hm1 : m ≤ 255) (hc0 : 0 ≤ c) (hc1 : c ≤ 255) : Calls Tryd.prog 4 #[.int .u8 m, .int .u8 c] w fun e w' => e = .returned (.bool true) ∧ Below w.heap.size w w' := by
  obtain ⟨m', rfl⟩ : ∃ m' : Nat, m = (m' : Int) := ⟨m.toNat, by omega⟩
  obtain ⟨c', rfl⟩ : ∃ c' : Nat, c = (c' : Int) := ⟨c.toNat, by omega⟩
  have hw := Lib.hid (wakes_any ho)
  obtain ⟨n, hn⟩ : ∃ n, 1048577 + m' = n := ⟨_, rfl⟩
  have hn1 : 1048576 < n := by omega
  have hn2 : n < 2000000 := by omega
  have hsum : IntKind.i64.wrap (1048577 + (m' : Int)) = (n : Int) := by simp only [IntKind.wrap, IntKind.signed, IntKind.bits]; simp; omega
  have hmk := fun wx => run_make_row' (P := Tryd.prog) 22 5 (.int .u8 0) 1 Tryd.underlying22 Byt.infoByte rfl .i64 .i64 n (by omega) (by omega) wx
  have hi8 : (1048577 : Int) + (m' : Int) = (n : Int) := by omega
  have HP := Lib.hid (fun (wx : World) (h : Ok wx) (s : List UInt8) (hl : s.length = n) => jparse_long (w := wx) (s := s) (by omega) (by omega))
  have HS := Lib.hid (fun (wx : World) => same_true (zero_hold wx) (zero_hold wx) rfl)
  unfold zeroV at HP HS
  clear hn
  go_enter Tryd.func4, Tryd.ntmps4
  go_wp2_with fail
  refine hw.out.mono ?_
  rintro e w1 ⟨rfl, k1⟩
  have hG := World.alloc_heap_new w1 (.cells (madeCells #[.int .u8 0] n) 5)
  have bG := k1.alloc k1.size (.cells (madeCells #[.int .u8 0] n) 5)
  have HG := Lib.hid hG
  have HBG := Lib.hid bG
  have hlw := k1.size
  clear hG bG k1
  go_wp2_with fail
  go_loopw [18] (fun a wr => ∃ j : Nat, a = .int .i64 j ∧ j ≤ n ∧ (∃ (arr : Array Value) (l : List Nat), wr.heap[w1.heap.size]? = some (.cells arr 5 (0, 0)) ∧ arr.toList = Byt.bytesV l ∧ l.length = n ∧ ∀ b ∈ l, b < 256) ∧ Below w.heap.size w wr) (fun a _ => n - (intOf a).toNat)
  case atStart => exact ⟨0, rfl, Nat.zero_le _, ⟨_, _, HG.out, made_bytes n, List.length_replicate, fun b hb => by rw [(List.mem_replicate.1 hb).2]; decide⟩, HBG.out⟩
  case round =>
    clear HG HBG hmk
    obtain ⟨j, rfl, hj, ⟨arr, l, hA, harr, hll, h256⟩, hB⟩ := hrel
    have hwj : IntKind.i64.wrap ((j : Int) + 1) = (j : Int) + 1 := by simp only [IntKind.wrap, IntKind.signed, IntKind.bits]; simp; omega
    have hwlt := lt_of_heap hA
    by_cases hlt : j < n
    · have hlt1 : decide (j < n) = true := decide_eq_true hlt
      have hlt' : (j : Int) < (n : Int) := by omega
      have hsz : arr.size = n := by
        have := congrArg List.length harr
        rw [Byt.bytesV_len, Array.length_toList] at this
        omega
      obtain ⟨vj, hvj⟩ : ∃ v, arr[j]? = some v := ⟨_, Array.getElem?_eq_getElem (by omega)⟩
      have hc := (cell_of hA j).trans hvj
      have hf := free_of hA j
      have hA2 := set_of hA j (.int .u8 (c' : Int))
      have hB2 := hB.setCell (p := ⟨w1.heap.size, j, none⟩) hlw (.int .u8 (c' : Int))
      have h2 := set_bytes harr j c'
      have h3 : ∀ b ∈ l.set j c', b < 256 := fun b hb => by
        rcases List.mem_or_eq_of_mem_set hb with h | h
        · exact h256 b h
        · omega
      have HA2 := Lib.hid hA2
      have HB2 := Lib.hid hB2
      have HL := Lib.hid hll
      have H2 := Lib.hid h2
      have H3 := Lib.hid h3
      clear hA2 hB2 h2 h3 hll harr h256 hA hB hsz hvj
      go_wp2_with fail
      go_roundw
      case rel => exact ⟨j + 1, by go_num, by omega, ⟨_, _, HA2.out, H2.out, by rw [List.length_set]; exact HL.out, H3.out⟩, HB2.out⟩
      case measure => simp [intOf]; omega
    · obtain rfl : j = n := by omega
      have hlt1 : decide (j < j) = false := by simp
      have hbs := Byt.bs_lit hA harr h256
      rw [hll] at hbs
      have hcv0 := Byt.convert_text hbs
      have hcv : (convert 22 9 (.slice (some ⟨w1.heap.size, 0, none⟩) j j)).run Tryd.prog wr = .ok (.string (txt (l.map UInt8.ofNat))) wr := hcv0
      clear hcv0
      have hpa := HP.out wr (ho.below hB) (l.map UInt8.ofNat) (by rw [List.length_map]; exact hll)
      have HPA := Lib.hid hpa
      have HB := Lib.hid hB
      clear hbs hpa hll harr h256 hA hB HP
      generalize l.map UInt8.ofNat = s at *
      go_wp2_with fail
      refine HPA.out.mono ?_
      rintro e w3 ⟨rfl, k3⟩
      have b3 := HB.out.trans (k3.mono HB.out.size)
      have b4 := b3.alloc b3.size (.cells #[.int .i64 0, .bool false, .bool false, .string ⟨#[]⟩, .int .i64 0, .string ⟨#[]⟩, .slice none 0 0, .slice none 0 0] 29)
      have HB4 := Lib.hid b4
      clear b3 b4 k3 hcv
      go_wp2_with fail
      refine (HS.out _).mono ?_
      rintro e w5 ⟨rfl, k5⟩
      have b5 := HB4.out.trans (k5.mono HB4.out.size)
      have HB5 := Lib.hid b5
      clear k5 b5
      go_wp2_with fail
      go_ret
      exact ⟨rfl, HB5.out⟩
end Go.Proofs.YtehpjidajmoggaaDoor.Jdec
