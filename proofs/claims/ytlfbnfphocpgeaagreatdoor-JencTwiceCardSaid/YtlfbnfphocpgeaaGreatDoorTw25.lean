/- A part of what twice_holds leans on (its texts, put together). Nothing is claimed here. -/
import Derived.Deep.OwnRows
import Derived.Test.YtlfbnfphocpgeaaGreatDoorTw23
import Derived.Test.YtlfbnfphocpgeaaGreatDoorTw24
namespace Go.Proofs.YtlfbnfphocpgeaaGreatDoor.Jdec
open Go.ChangeShapes Go.WideShapes Go.ChangeAt Go.RowKit Kit
theorem gNext : Tryz.prog.globalNamed "tabularium/num.next" = some 0 := by kernel_rfl
theorem tNext : (Tryz.prog.globals[0]?).map (·.type) = some 129 := by kernel_rfl
theorem plainNext : plainT Tryz.prog 5 129 = true := by kernel_rfl
theorem readsNext (W : World) : DataW.trod (fun _ => ()) Tryz.prog W 0 (fun _ => true) false 5 129 Num.tcells.toList = some (Rows.laid_tabularium_num_next, []) := by kernel_rfl
theorem listed {P : Program} {w : World} : ∀ {l : List (String × DataW Unit)} {ps : List MemPlace}, DataW.LaidVars P w l ps → ∀ {n : String} {d : DataW Unit}, (n, d) ∈ l →
    ∃ g t cs f p, P.globalNamed n = some g ∧ (P.globals[g]?).map (·.type) = some t ∧ w.var? P n = some cs ∧ DataW.trod (fun _ => ()) P w 0 (fun _ => true) false f t cs.toList = some (d, p)
  | [], _, _, _, _, hm => by cases hm
  | (n', d') :: r, ps, h, n, d, hm => by
    obtain ⟨g, t, cs, fuel, p, q, h1, h2, h3, h4, h5, _⟩ := h
    rcases List.mem_cons.1 hm with e | e
    · cases e
      exact ⟨g, t, cs, fuel, p, h1, h2, h3, h4⟩
    · exact listed h5 e
theorem laid_ok {W : World} {laid : List (String × DataW Unit)} (h : laidMetH Tryz.prog laid W) (hp : (laid.all fun x => x.2.handleName?.isNone) = true)
    (h1 : ("tabularium/num.next", Rows.laid_tabularium_num_next) ∈ laid) (h2 : ("tabularium/utf.kinds", Rows.laid_tabularium_utf_kinds) ∈ laid) : Ok W := by
  rw [MakeChecks.laidMetH_plain _ _ _ hp] at h
  obtain ⟨ps, hv, _⟩ := h
  constructor
  · obtain ⟨g, t, cs, f, p, hg, ht, hvr, hd⟩ := listed hv h2
    obtain rfl := Option.some.inj (Utf.gKinds.symm.trans hg)
    obtain rfl := Option.some.inj (Utf.tKinds.symm.trans ht)
    have e := trod_inj 5 227 _ _ _ _ _ _ _ Utf.plainKinds hd (Utf.readsKinds W)
    unfold World.var? at hvr
    rw [Utf.gKinds] at hvr
    simp only [Option.bind_some] at hvr
    split at hvr
    · rename_i c ty fr hh
      have : c = cs := Option.some.inj hvr
      subst this
      have : c = Utf.kcells := by
        rw [← Array.toArray_toList (xs := c), e]
      subst this
      exact ⟨_, _, hh⟩
    · cases hvr
  · obtain ⟨g, t, cs, f, p, hg, ht, hvr, hd⟩ := listed hv h1
    obtain rfl := Option.some.inj (gNext.symm.trans hg)
    obtain rfl := Option.some.inj (tNext.symm.trans ht)
    have e := trod_inj 5 129 _ _ _ _ _ _ _ plainNext hd (readsNext W)
    unfold World.var? at hvr
    rw [gNext] at hvr
    simp only [Option.bind_some] at hvr
    split at hvr
    · rename_i c ty fr hh
      have : c = cs := Option.some.inj hvr
      subst this
      have : c = Num.tcells := by
        rw [← Array.toArray_toList (xs := c), e]
      subst this
      exact ⟨_, _, hh⟩
    · cases hvr
end Go.Proofs.YtlfbnfphocpgeaaGreatDoor.Jdec
namespace Go.Proofs.YtlfbnfphocpgeaaGreatDoor.Jdec
open Tre (Val)
theorem wscan (r : List UInt8) : Quo.scan (34 :: 97 :: 34 :: r) = ⟨[97], 3, 0⟩ := by
  have hp : Quo.part (97 :: 34 :: r) = ⟨[97], 1, 0⟩ := by
    have h1 := Quo.part_lo (c := 97) (by decide) (34 :: r)
    rw [show Quo.esc 97 = [97] by decide] at h1
    exact h1
  unfold Quo.scan
  dsimp only
  rw [if_neg (by decide), Quo.scanF_step (p := ⟨[97], 1, 0⟩) (l' := 34 :: r) (by simp) hp rfl rfl, Quo.scanF_end rfl]
  rfl
def one : Val := ⟨3, false, ⟨false, [49], 0⟩, [], [], []⟩
def two : Val := ⟨3, false, ⟨false, [50], 0⟩, [], [], []⟩
theorem n1a : number [49, 44, 50, 93, 125] = .ok one [44, 50, 93, 125] := by
  have h1 : Num.scan [49, 44, 50, 93, 125] = 1 := by decide +kernel
  have h2 : Num.parse [49] = (⟨false, [49], 0⟩, 0) := by decide +kernel
  unfold number
  rw [h1]
  simp [h2, one]
theorem n2a : number [50, 93, 125] = .ok two [93, 125] := by
  have h1 : Num.scan [50, 93, 125] = 1 := by decide +kernel
  have h2 : Num.parse [50] = (⟨false, [50], 0⟩, 0) := by decide +kernel
  unfold number
  rw [h1]
  simp [h2, two]
theorem n1b : number [49, 44, 93] = .ok one [44, 93] := by
  have h1 : Num.scan [49, 44, 93] = 1 := by decide +kernel
  have h2 : Num.parse [49] = (⟨false, [49], 0⟩, 0) := by decide +kernel
  unfold number
  rw [h1]
  simp [h2, one]
theorem n1c : number [49, 44, 34, 97, 34, 58, 50, 125] = .ok one [44, 34, 97, 34, 58, 50, 125] := by
  have h1 : Num.scan [49, 44, 34, 97, 34, 58, 50, 125] = 1 := by decide +kernel
  have h2 : Num.parse [49] = (⟨false, [49], 0⟩, 0) := by decide +kernel
  unfold number
  rw [h1]
  simp [h2, one]
theorem val_num (K : Nat) {c : UInt8} {r : List UInt8} (h : digit c = true) : value (K + 1) (c :: r) = number (c :: r) := by
  have hb : begins c = true := by unfold begins; rw [h]; simp
  simp [value, hb, read, h]
theorem val_many (K : Nat) {c : UInt8} {r : List UInt8} (h : c = 91 ∨ c = 123) : value (K + 1) (c :: r) = many (value K) (c :: r) := by
  rcases h with rfl | rfl <;> rfl
theorem skip_id {c : UInt8} {r : List UInt8} (h : blank c = false) : skip (c :: r) = c :: r := by
  unfold skip
  rw [List.dropWhile_cons, if_neg (by rw [h]; decide)]
theorem val_bad (K : Nat) {c : UInt8} {r : List UInt8} (h : begins c = false) : value K (c :: r) = .no (c :: r) 3 := by
  cases K <;> simp [value, h]
theorem at_close (val : List UInt8 → Got Val) (obj first : Bool) (keys : List (List UInt8)) (kids : List Val) (r : List UInt8) : atHead val obj first keys kids (close obj :: r) = .ok (made obj keys kids) r := if_pos rfl
theorem at_first (val : List UInt8 → Got Val) {obj : Bool} (keys : List (List UInt8)) (kids : List Val) {c : UInt8} {r : List UInt8} (h : c ≠ close obj) : atHead val obj true keys kids (c :: r) = items val obj keys kids (c :: r) := by
  unfold atHead
  rw [if_neg (by simpa using h), if_pos rfl]
theorem at_comma (val : List UInt8 → Got Val) (obj : Bool) (keys : List (List UInt8)) (kids : List Val) (r : List UInt8) : atHead val obj false keys kids (44 :: r) = items val obj keys kids (skip r) := by
  have h1 : ¬ ((44 :: r).head? = some (close obj)) := by cases obj <;> simp [close]
  have h2 : ¬ (false = true) := by decide
  have h3 : ¬ ((44 :: r).head? ≠ some 44) := by simp
  unfold atHead
  rw [if_neg h1, if_neg h2, if_neg h3]
  rfl
theorem part_list {val : List UInt8 → Got Val} {keys : List (List UInt8)} {l r : List UInt8} {x : Val} (h : val l = .ok x r) : part val false keys l = .ok (keys, x) r := by
  unfold part
  rw [show named false keys l = .ok keys l from rfl]
  dsimp only
  rw [h]
theorem part_list_no {val : List UInt8 → Got Val} {keys : List (List UInt8)} {l r : List UInt8} {e : Nat} (h : val l = .no r e) : part val false keys l = .no r e := by
  unfold part
  rw [show named false keys l = .ok keys l from rfl]
  dsimp only
  rw [h]
theorem part_objs {val : List UInt8 → Got Val} {keys : List (List UInt8)} {l r1 r k : List UInt8} {x : Val} (hf : field keys l = .ok k r1) (h : val r1 = .ok x r) : part val true keys l = .ok (keys ++ [k], x) r := by
  unfold part
  rw [show named true keys l = (match field keys l with | .ok k r => .ok (keys ++ [k]) r | .no r e => .no r e) from rfl, hf]
  dsimp only
  rw [h]
theorem part_objs_no {val : List UInt8 → Got Val} {keys : List (List UInt8)} {l r : List UInt8} {e : Nat} (hf : field keys l = .no r e) : part val true keys l = .no r e := by
  unfold part
  rw [show named true keys l = (match field keys l with | .ok k r => .ok (keys ++ [k]) r | .no r e => .no r e) from rfl, hf]
theorem field_a (keys : List (List UInt8)) (hk : [97] ∉ keys) {c : UInt8} {r : List UInt8} (hc : blank c = false) : field keys (34 :: 97 :: 34 :: 58 :: c :: r) = .ok [97] (c :: r) := by
  rw [field_eq, wscan]
  dsimp only
  rw [if_neg (by decide), if_neg hk, show (34 :: 97 :: 34 :: 58 :: c :: r).drop 3 = 58 :: c :: r from rfl, skip_id (by decide), if_neg (by simp [wantE]), List.tail_cons, skip_id hc]
theorem field_twice {keys : List (List UInt8)} (hk : [97] ∈ keys) (r : List UInt8) : field keys (34 :: 97 :: 34 :: r) = .no (34 :: 97 :: 34 :: r) 6 := by
  rw [field_eq, wscan]
  dsimp only
  rw [if_neg (by decide), if_pos hk]
theorem wlist (K : Nat) : value (K + 2) [91, 49, 44, 50, 93, 125] = .ok (made false [] [one, two]) [125] := by
  rw [val_many (K + 1) (.inl rfl), many_head (obj := false) rfl, List.tail_cons, skip_id (by decide), at_first _ _ _ (by decide),
    items_ok (value_good (K + 1)) (part_list ((val_num K (by decide)).trans n1a)), skip_id (by decide), at_comma, skip_id (by decide),
    items_ok (value_good (K + 1)) (part_list ((val_num K (by decide)).trans n2a)), skip_id (by decide)]
  exact at_close _ false false [] [one, two] [125]
theorem wake1 : parse [123, 34, 97, 34, 58, 91, 49, 44, 50, 93, 125] = .ok (made true [[97]] [made false [] [one, two]]) [] := by
  have h : value 64 [123, 34, 97, 34, 58, 91, 49, 44, 50, 93, 125] = .ok (made true [[97]] [made false [] [one, two]]) [] := by
    rw [val_many 63 (.inr rfl), many_head (obj := true) rfl, List.tail_cons, skip_id (by decide), at_first _ _ _ (by decide),
      items_ok (value_good 63) (part_objs (field_a [] (by simp) (by decide)) (wlist 61)), skip_id (by decide)]
    exact at_close _ true false [[97]] _ []
  unfold parse
  rw [skip_id (by decide), h]
  rfl
theorem wake2 : parse [91, 49, 44, 93] = .no [93] 3 := by
  have h : value 64 [91, 49, 44, 93] = .no [93] 3 := by
    rw [val_many 63 (.inl rfl), many_head (obj := false) rfl, List.tail_cons, skip_id (by decide), at_first _ _ _ (by decide),
      items_ok (value_good 63) (part_list ((val_num 62 (by decide)).trans n1b)), skip_id (by decide), at_comma, skip_id (by decide),
      items_no _ _ (part_list_no (val_bad 63 (by decide)))]
  unfold parse
  rw [skip_id (by decide), h]
theorem wake3 : parse [123, 34, 97, 34, 58, 49, 44, 34, 97, 34, 58, 50, 125] = .no [34, 97, 34, 58, 50, 125] 6 := by
  have h : value 64 [123, 34, 97, 34, 58, 49, 44, 34, 97, 34, 58, 50, 125] = .no [34, 97, 34, 58, 50, 125] 6 := by
    rw [val_many 63 (.inr rfl), many_head (obj := true) rfl, List.tail_cons, skip_id (by decide), at_first _ _ _ (by decide),
      items_ok (value_good 63) (part_objs (field_a [] (by simp) (by decide)) ((val_num 62 (by decide)).trans n1c)), skip_id (by decide), at_comma, skip_id (by decide),
      items_no _ _ (part_objs_no (field_twice (by simp) _))]
  unfold parse
  rw [skip_id (by decide), h]
end Go.Proofs.YtlfbnfphocpgeaaGreatDoor.Jdec
namespace Go.Proofs.YtlfbnfphocpgeaaGreatDoor.Jdec
open Go.RowKit Kit Txt
open Tre (Val HoldF HoldV zeroV)
theorem wcall1 {w : World} (ho : Ok w) : Calls Tryz.prog 10 #[.string ⟨#[123, 34, 97, 34, 58, 91, 49, 44, 50, 93, 125]⟩] w fun e w' => (∃ (ak av : Option Addr) (lk lv ck cv : Nat), e = .returned (.tuple #[.agg #[.int .i64 6, .bool false, .bool false, .string ⟨#[]⟩, .int .i64 0, .string ⟨#[]⟩, .slice ak lk ck, .slice av lv cv], .int .i64 (-1), .int .i64 0])) ∧ Below w.heap.size w w' := by
  refine (jparse_all (w := w) (s := [123, 34, 97, 34, 58, 91, 49, 44, 50, 93, 125]) (by decide) ho).mono ?_
  rintro e w' ⟨k, h⟩
  rw [wake1] at h
  obtain ⟨y, rfl, hy⟩ := h
  obtain ⟨pk, ck, a, c, rfl⟩ := holdF_form hy
  exact ⟨⟨_, _, _, _, _, _, rfl⟩, k⟩
theorem wcall2 {w : World} (ho : Ok w) : Calls Tryz.prog 10 #[.string ⟨#[91, 49, 44, 93]⟩] w fun e w' => e = .returned (.tuple #[zeroV, .int .i64 3, .int .i64 3]) ∧ Below w.heap.size w w' := by
  refine (jparse_all (w := w) (s := [91, 49, 44, 93]) (by decide) ho).mono ?_
  rintro e w' ⟨k, h⟩
  rw [wake2] at h
  exact ⟨h, k⟩
theorem wcall3 {w : World} (ho : Ok w) : Calls Tryz.prog 10 #[.string ⟨#[123, 34, 97, 34, 58, 49, 44, 34, 97, 34, 58, 50, 125]⟩] w fun e w' => e = .returned (.tuple #[zeroV, .int .i64 7, .int .i64 6]) ∧ Below w.heap.size w w' := by
  refine (jparse_all (w := w) (s := [123, 34, 97, 34, 58, 49, 44, 34, 97, 34, 58, 50, 125]) (by decide) ho).mono ?_
  rintro e w' ⟨k, h⟩
  rw [wake3] at h
  exact ⟨h, k⟩
set_option maxRecDepth 100000 in
set_option maxHeartbeats 8000000 in
theorem wakes_any {w : World} (ho : Ok w) : Calls Tryz.prog 8 #[] w fun e w' => e = .returned (.bool true) ∧ Below w.heap.size w w' := by
  have h1 := Lib.hid (wcall1 ho)
  have h2 := Lib.hid (fun (wx : World) (h : Ok wx) => wcall2 h)
  have h3 := Lib.hid (fun (wx : World) (h : Ok wx) => wcall3 h)
  unfold zeroV at h2 h3
  go_enter Tryz.func8, Tryz.ntmps8
  go_wp2_with fail
  refine h1.out.mono ?_
  rintro e w1 ⟨⟨ak, av, lk, lv, ck, cv, rfl⟩, k1⟩
  have b1 := k1.alloc k1.size (.cells #[.int .i64 6, .bool false, .bool false, .string ⟨#[]⟩, .int .i64 0, .string ⟨#[]⟩, .slice ak lk ck, .slice av lv cv] 29)
  have hA := World.alloc_heap_new w1 (.cells #[.int .i64 6, .bool false, .bool false, .string ⟨#[]⟩, .int .i64 0, .string ⟨#[]⟩, .slice ak lk ck, .slice av lv cv] 29)
  have HB1 := Lib.hid b1
  have HA := Lib.hid hA
  clear b1 hA k1
  go_wp2_with fail
  refine (h2.out _ (ho.below HB1.out)).mono ?_
  rintro e w2 ⟨rfl, k2⟩
  have b2 := (HB1.out.trans (k2.mono HB1.out.size))
  have hA2 := (k2.block _ (by simp)).trans HA.out
  have b3 := b2.alloc b2.size (.cells #[.int .i64 0, .bool false, .bool false, .string ⟨#[]⟩, .int .i64 0, .string ⟨#[]⟩, .slice none 0 0, .slice none 0 0] 29)
  have hA3 := new_of hA2 (.cells #[.int .i64 0, .bool false, .bool false, .string ⟨#[]⟩, .int .i64 0, .string ⟨#[]⟩, .slice none 0 0, .slice none 0 0] 29)
  have HB3 := Lib.hid b3
  have HA3 := Lib.hid hA3
  clear b2 hA2 b3 hA3 k2
  go_wp2_with fail
  refine (h3.out _ (ho.below HB3.out)).mono ?_
  rintro e w4 ⟨rfl, k4⟩
  have b4 := (HB3.out.trans (k4.mono HB3.out.size))
  have hA4 := (k4.block _ (lt_of_heap HA3.out)).trans HA3.out
  have b5 := b4.alloc b4.size (.cells #[.int .i64 0, .bool false, .bool false, .string ⟨#[]⟩, .int .i64 0, .string ⟨#[]⟩, .slice none 0 0, .slice none 0 0] 29)
  obtain ⟨c0, -, -, -, -, -, -, -⟩ := eight hA4
  have hlt := lt_of_heap hA4
  have HB5 := Lib.hid b5
  clear b4 hA4 b5 k4
  go_wp2_with fail
  go_ret
  exact ⟨rfl, HB5.out⟩
end Go.Proofs.YtlfbnfphocpgeaaGreatDoor.Jdec
namespace Go.Proofs.YtlfbnfphocpgeaaGreatDoor.Jdec
open Go.RowKit Kit Txt
open Tre (Val HoldF HoldV zeroV none' rsame_any)
theorem same_true {w : World} {x y : Val} {u v : Value} (hx : HoldV w u x) (hy : HoldV w v y) (e : x = y) : Calls Tryz.prog 11 #[u, v] w fun e w' => e = .returned (.bool true) ∧ Below w.heap.size w w' :=
  (rsame_any x y w u v hx hy).mono fun _ _ ⟨⟨r, he, hr⟩, k⟩ => ⟨by rw [he, hr.2 e], k⟩
end Go.Proofs.YtlfbnfphocpgeaaGreatDoor.Jdec
namespace Go.Proofs.YtlfbnfphocpgeaaGreatDoor.Jdec
open Go.RowKit Kit Txt
open Tre (Val HoldF HoldV zeroV none' rsame_any)
theorem ParseTold.form {s : List UInt8} {w : World} {e : Ending} {w' : World} (h : ParseTold s w e w') : ∃ (k : Int) (b : Bool) (n : Num.Dec) (t : List UInt8) (pk : Option Addr) (lk ck : Nat) (a : Option Addr) (lv c : Nat) (p ek : Int),
    e = .returned (.tuple #[.agg #[.int .i64 k, .bool b, .bool n.neg, .string (txt n.dig), .int .i64 n.exp, .string (txt t), .slice pk lk ck, .slice a lv c], .int .i64 p, .int .i64 ek]) := by
  obtain ⟨-, h⟩ := h
  cases hp : parse s with
  | ok v r =>
    rw [hp] at h
    obtain ⟨y, rfl, hy⟩ := h
    obtain ⟨pk, ck, a, c, rfl⟩ := holdF_form hy
    exact ⟨_, _, v.num, v.str, _, _, _, _, _, _, _, _, rfl⟩
  | no r k =>
    rw [hp] at h
    exact ⟨0, false, Num.zero, [], _, _, _, _, _, _, _, _, h⟩
end Go.Proofs.YtlfbnfphocpgeaaGreatDoor.Jdec
namespace Go.Proofs.YtlfbnfphocpgeaaGreatDoor.Tre
open Num (Dec zero)
abbrev Row := List UInt8 × Val
def Rises (l : List Row) : Prop := l.Pairwise fun a b => less a.1 b.1 = true
theorem ins_perm (p : Row) : ∀ l : List Row, (ins p l).Perm (p :: l)
  | [] => .refl _
  | q :: r => by
    unfold ins
    split
    · exact .refl _
    · exact ((ins_perm p r).cons q).trans (.swap p q r)
theorem sortP_perm : ∀ l : List Row, (sortP l).Perm l
  | [] => .refl _
  | p :: l => (ins_perm p (sortP l)).trans ((sortP_perm l).cons p)
theorem ins_rises {p : Row} : ∀ {l : List Row}, Rises l → (∀ q ∈ l, p.1 ≠ q.1) → Rises (ins p l)
  | [], _, _ => List.pairwise_singleton _ _
  | q :: r, h, hne => by
    unfold Rises at h
    rw [List.pairwise_cons] at h
    unfold ins
    by_cases hl : less p.1 q.1 = true
    · rw [if_pos hl]
      unfold Rises
      rw [List.pairwise_cons, List.pairwise_cons]
      refine ⟨fun x hx => ?_, h⟩
      rcases List.mem_cons.1 hx with rfl | hx
      · exact hl
      · exact less_trans hl (h.1 x hx)
    · rw [if_neg hl]
      unfold Rises
      rw [List.pairwise_cons]
      refine ⟨fun x hx => ?_, ins_rises h.2 fun y hy => hne y (List.mem_cons_of_mem _ hy)⟩
      rcases List.mem_cons.1 ((ins_perm p r).mem_iff.1 hx) with rfl | hx
      · exact less_total (hne q (List.mem_cons_self ..)) (by simpa using hl)
      · exact h.1 x hx
theorem sortP_rises : ∀ {l : List Row}, (l.map (·.1)).Nodup → Rises (sortP l)
  | [], _ => List.Pairwise.nil
  | p :: l, h => by
    rw [List.map_cons, List.nodup_cons] at h
    refine ins_rises (sortP_rises h.2) fun q hq e => h.1 ?_
    rw [e]
    exact List.mem_map_of_mem ((sortP_perm l).mem_iff.1 hq)
theorem rises_one : ∀ {a b : List Row}, Rises a → Rises b → a.Perm b → a = b
  | [], b, _, _, h => (List.nil_perm.1 h).symm
  | x :: a, [], _, _, h => absurd (List.perm_nil.1 h) (by simp)
  | x :: a, y :: b, ha, hb, h => by
    unfold Rises at ha hb
    rw [List.pairwise_cons] at ha hb
    have e : x = y := by
      rcases List.mem_cons.1 (h.mem_iff.1 (List.mem_cons_self ..)) with e | hx
      · exact e
      · rcases List.mem_cons.1 (h.mem_iff.2 (List.mem_cons_self ..)) with e | hy
        · exact e.symm
        · have h1 := less_trans (hb.1 x hx) (ha.1 y hy)
          rw [less_self] at h1
          cases h1
    subst e
    rw [rises_one ha.2 hb.2 ((List.perm_cons x).1 h)]
theorem sortP_fix {l : List Row} (h : Rises l) : sortP l = l := by
  refine rises_one (sortP_rises ?_) h (sortP_perm l)
  unfold List.Nodup
  rw [List.pairwise_map]
  refine h.imp fun {a b} hab e => ?_
  rw [e, less_self] at hab
  cases hab
theorem zip_map_fst {α β : Type} : ∀ {a : List α} {b : List β}, a.length = b.length → (a.zip b).map (·.1) = a
  | [], [], _ => rfl
  | x :: a, y :: b, h => by
    rw [List.zip_cons_cons, List.map_cons, zip_map_fst (by simpa using h)]
theorem zip_map_snd {α β : Type} : ∀ {a : List α} {b : List β}, a.length = b.length → (a.zip b).map (·.2) = b
  | [], [], _ => rfl
  | x :: a, y :: b, h => by
    rw [List.zip_cons_cons, List.map_cons, zip_map_snd (by simpa using h)]
theorem zip_of_maps {α β : Type} : ∀ l : List (α × β), (l.map (·.1)).zip (l.map (·.2)) = l
  | [] => rfl
  | p :: l => by rw [List.map_cons, List.map_cons, List.zip_cons_cons, zip_of_maps l]
def rows (ks : List (List UInt8)) (vs : List Val) : List Row := sortP (ks.zip (sorts vs))
theorem sort_eq (v : Val) : sort v = if v.kind = 6 then ⟨v.kind, v.is, v.num, v.str, (rows v.keys v.kids).map (·.1), (rows v.keys v.kids).map (·.2)⟩ else ⟨v.kind, v.is, v.num, v.str, [], sorts v.kids⟩ := by
  obtain ⟨k, i, n, s, ks, vs⟩ := v
  rw [sort]
  rfl
theorem sorts_len (vs : List Val) : (sorts vs).length = vs.length := by rw [sorts_map, List.length_map]
theorem rows_keys {ks : List (List UInt8)} {vs : List Val} (h : ks.length = vs.length) : ((rows ks vs).map (·.1)).Perm ks := by
  have := (sortP_perm (ks.zip (sorts vs))).map (·.1)
  rwa [zip_map_fst (by rw [sorts_len, h])] at this
theorem rows_kids {ks : List (List UInt8)} {vs : List Val} (h : ks.length = vs.length) : ((rows ks vs).map (·.2)).Perm (sorts vs) := by
  have := (sortP_perm (ks.zip (sorts vs))).map (·.2)
  rwa [zip_map_snd (by rw [sorts_len, h])] at this
theorem rows_rises {ks : List (List UInt8)} {vs : List Val} (h : ks.length = vs.length) (hn : ks.Nodup) : Rises (rows ks vs) :=
  sortP_rises (by rwa [zip_map_fst (by rw [sorts_len, h])])
theorem deeps_perm {a b : List Val} (h : a.Perm b) : deeps a = deeps b :=
  Nat.le_antisymm (deeps_le.2 fun v hv => deeps_le.1 (Nat.le_refl _) v (h.mem_iff.1 hv)) (deeps_le.2 fun v hv => deeps_le.1 (Nat.le_refl _) v (h.mem_iff.2 hv))
mutual
theorem sort_deep : ∀ v : Val, Whole v → deep (sort v) = deep v
  | ⟨k, i, n, s, ks, vs⟩, h => by
    rw [Whole] at h
    have hd := sorts_deep vs h.2
    rw [sort]
    by_cases h6 : k = 6
    · have hl : ks.length = vs.length := h.1.2.2.2.2.2.2.2.2.2.1 h6
      have hp := deeps_perm (rows_kids hl)
      unfold rows at hp
      rw [if_pos h6, deep, deep, hp, hd]
    · rw [if_neg h6, deep, deep, hd]
theorem sorts_deep : ∀ vs : List Val, Wholes vs → deeps (sorts vs) = deeps vs
  | [], _ => rfl
  | v :: r, h => by
    rw [Wholes] at h
    rw [sorts, deeps, deeps, sort_deep v h.1, sorts_deep r h.2]
end
mutual
theorem sort_whole : ∀ v : Val, Whole v → Whole (sort v)
  | ⟨k, i, n, s, ks, vs⟩, h => by
    rw [Whole] at h
    have hd := sorts_whole vs h.2
    obtain ⟨h1, h2, h3, h4, h5, h6, h7, h8, h9, h10, h11, h12⟩ := h.1
    rw [sort]
    by_cases hk : k = 6
    · rw [if_pos hk, Whole, wholes_iff]
      have hl := h10 hk
      refine ⟨⟨h1, h2, h3, h4, h5, ?_, fun e => absurd hk e, h8, h9, ?_, ?_, ?_⟩, fun v hv => wholes_iff.1 hd v ((rows_kids hl).mem_iff.1 hv)⟩
      · intro e
        exact absurd e (by show ¬ k < 5; omega)
      · intro _
        show ((rows ks vs).map (·.1)).length = ((rows ks vs).map (·.2)).length
        rw [List.length_map, List.length_map]
      · intro q hq
        exact h11 q ((rows_keys hl).mem_iff.1 hq)
      · exact (rows_keys hl).nodup_iff.2 h12
    · rw [if_neg hk, Whole]
      refine ⟨⟨h1, h2, h3, h4, h5, fun e => ?_, fun _ => rfl, h8, h9, fun e => absurd e hk, fun q hq => absurd hq List.not_mem_nil, List.nodup_nil⟩, hd⟩
      have hvs : vs = [] := h6 e
      subst hvs
      rfl
theorem sorts_whole : ∀ vs : List Val, Wholes vs → Wholes (sorts vs)
  | [], _ => trivial
  | v :: r, h => by
    rw [Wholes] at h
    rw [sorts, Wholes]
    exact ⟨sort_whole v h.1, sorts_whole r h.2⟩
end
theorem sort_right {v : Val} (h : Right v) : Right (sort v) := ⟨by rw [sort_deep v h.2]; exact h.1, sort_whole v h.2⟩
mutual
theorem sort_sort : ∀ v : Val, Whole v → sort (sort v) = sort v
  | ⟨k, i, n, s, ks, vs⟩, h => by
    rw [Whole] at h
    have hd := sorts_sort vs h.2
    obtain ⟨h1, h2, h3, h4, h5, h6, h7, h8, h9, h10, h11, h12⟩ := h.1
    rw [sort]
    by_cases hk : k = 6
    · rw [if_pos hk, sort, if_pos hk]
      have hl : ks.length = vs.length := h10 hk
      have hs : sorts ((rows ks vs).map (·.2)) = (rows ks vs).map (·.2) := by
        rw [sorts_map]
        refine (List.map_congr_left fun v hv => ?_).trans (List.map_id _)
        have hv' := (rows_kids hl).mem_iff.1 hv
        rw [sorts_map (sorts vs)] at hd
        exact List.map_inj_left.1 (hd.trans (List.map_id _).symm) v hv'
      have hz : sortP (((rows ks vs).map (·.1)).zip (sorts ((rows ks vs).map (·.2)))) = rows ks vs := by
        rw [hs, zip_of_maps]
        exact sortP_fix (rows_rises hl h12)
      unfold rows at hz
      rw [hz]
    · rw [if_neg hk, sort, if_neg hk, hd]
theorem sorts_sort : ∀ vs : List Val, Wholes vs → sorts (sorts vs) = sorts vs
  | [], _ => rfl
  | v :: r, h => by
    rw [Wholes] at h
    rw [sorts, sorts, sort_sort v h.1, sorts_sort r h.2]
end
end Go.Proofs.YtlfbnfphocpgeaaGreatDoor.Tre
namespace Go.Proofs.YtlfbnfphocpgeaaGreatDoor.Jenc
open Tre (Val Whole Wholes deep deeps sort)
def brk (wide : Bool) (d : Nat) : List UInt8 := if wide then 10 :: (List.replicate d [32, 32]).flatten else []
def key (wide : Bool) (k : List UInt8) : List UInt8 := Quo.print k ++ (58 :: (if wide then [32] else []))
def opener (obj : Bool) : UInt8 := if obj then 123 else 91
mutual
def prt (wide : Bool) (d : Nat) : Val → List UInt8
  | ⟨k, i, n, s, ks, vs⟩ =>
    if k = 1 then [110, 117, 108, 108] else if k = 2 then (if i then [116, 114, 117, 101] else [102, 97, 108, 115, 101])
    else if k = 3 then Num.print n else if k = 4 then Quo.print s
    else opener (decide (k = 6)) :: (prts wide (d + 1) (decide (k = 6)) true ks vs ++ ((if vs.isEmpty then [] else brk wide d) ++ [Jdec.close (decide (k = 6))]))
def prts (wide : Bool) (d : Nat) (obj first : Bool) (ks : List (List UInt8)) : List Val → List UInt8
  | [] => []
  | v :: r => (if first then [] else [44]) ++ (brk wide d ++ ((if obj then key wide (ks.headD []) else []) ++ (prt wide d v ++ prts wide d obj false ks.tail r)))
end
mutual
def pcs : Val → List (List UInt8)
  | ⟨k, i, n, s, ks, vs⟩ =>
    if k = 1 then [[110, 117, 108, 108]] else if k = 2 then [if i then [116, 114, 117, 101] else [102, 97, 108, 115, 101]]
    else if k = 3 then [Num.print n] else if k = 4 then [Quo.print s]
    else [opener (decide (k = 6))] :: (pcss (decide (k = 6)) true ks vs ++ [[Jdec.close (decide (k = 6))]])
def pcss (obj first : Bool) (ks : List (List UInt8)) : List Val → List (List UInt8)
  | [] => []
  | v :: r => (if first then [] else [[44]]) ++ ((if obj then [Quo.print (ks.headD []), [58]] else []) ++ (pcs v ++ pcss obj false ks.tail r))
end

structure WS where
  out : List UInt8
  deep : Int
  last : List UInt8
def opens (p : List UInt8) : Bool := decide (p = [91]) || decide (p = [123])
def shuts (p : List UInt8) : Bool := decide (p = [93]) || decide (p = [125])
def brkI (d : Int) : List UInt8 := brk true d.toNat
def wdeep (s : WS) (p : List UInt8) : Int := (if opens s.last then s.deep + 1 else s.deep) - (if shuts p then 1 else 0)
def wgap (s : WS) (p : List UInt8) : List UInt8 := if opens s.last ≠ shuts p ∨ s.last = [44] then brkI (wdeep s p) else if s.last = [58] then [32] else []
def wstep (s : WS) (p : List UInt8) : WS := ⟨s.out ++ (wgap s p ++ p), wdeep s p, p⟩
def wfold (s : WS) (ps : List (List UInt8)) : WS := ps.foldl wstep s
def Plain (p : List UInt8) : Prop := p ≠ [91] ∧ p ≠ [123] ∧ p ≠ [93] ∧ p ≠ [125] ∧ p ≠ [44] ∧ p ≠ [58]
def Ends (p : List UInt8) : Prop := p ≠ [91] ∧ p ≠ [123] ∧ p ≠ [44] ∧ p ≠ [58]
theorem num_bytes {n : Num.Dec} (h : Num.Right n) : Num.print n ≠ [] ∧ ∀ c ∈ Num.print n, Jdec.numeric c.toNat := by
  obtain ⟨h1, h2, h3⟩ := Num.parse_print h
  refine ⟨h3, fun c hc => ?_⟩
  obtain ⟨i, hi, e⟩ := List.mem_iff_getElem.1 hc
  have := Jdec.scan_numeric (Num.print n) i (by omega)
  unfold Num.nb at this
  rw [List.getD_eq_getElem?_getD, List.getElem?_eq_getElem hi] at this
  simpa [e] using this
theorem Plain.open {p : List UInt8} (h : Plain p) : opens p = false := by
  obtain ⟨h1, h2, _⟩ := h
  simp [opens, h1, h2]
theorem Ends.open {p : List UInt8} (h : Ends p) : opens p = false := by
  obtain ⟨h1, h2, _⟩ := h
  simp [opens, h1, h2]
def ahead (s : WS) : List UInt8 := if opens s.last then brkI (s.deep + 1) else if s.last = [44] then brkI s.deep else if s.last = [58] then [32] else []
theorem opener_shut (b : Bool) : shuts [opener b] = false := by cases b <;> decide
theorem opener_open (b : Bool) : opens [opener b] = true := by cases b <;> decide
theorem close_shut (b : Bool) : shuts [Jdec.close b] = true := by cases b <;> decide
theorem brk_false (d : Nat) : brk false d = [] := rfl
mutual
theorem narrow_val : ∀ (v : Val) (d : Nat), (pcs v).flatten = prt false d v
  | ⟨k, i, n, t, ks, vs⟩, d => by
    rw [pcs, prt]
    split
    · rfl
    split
    · simp
    split
    · simp
    split
    · simp
    rw [List.flatten_cons, List.flatten_append, narrow_vals vs (d + 1)]
    simp [brk_false]
theorem narrow_vals : ∀ (vs : List Val) (d : Nat) (obj first : Bool) (ks : List (List UInt8)), (pcss obj first ks vs).flatten = prts false d obj first ks vs
  | [], _, _, _, _ => by rw [pcss, prts]; rfl
  | v :: r, d, obj, first, ks => by
    rw [pcss, prts, List.flatten_append, List.flatten_append, List.flatten_append, narrow_val v d, narrow_vals r d, brk_false]
    cases first <;> cases obj <;> simp [key]
end
end Go.Proofs.YtlfbnfphocpgeaaGreatDoor.Jenc
