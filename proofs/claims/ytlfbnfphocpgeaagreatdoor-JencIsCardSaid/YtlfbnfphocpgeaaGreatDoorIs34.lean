/- A part of what is_holds leans on (its texts, put together). Nothing is claimed here. -/
import Derived.Shelf.SlSortCmp.WholeK
import Derived.Test.YtlfbnfphocpgeaaGreatDoorIs33
namespace Go.Proofs.YtlfbnfphocpgeaaGreatDoor.Tre
open Go.RowKit Kit Txt Go.Sort
open Num (Dec zero)
structure F8 where
 k : Int
 b : Bool
 n : Dec
 s : List UInt8
 pk : Option Addr
 lk : Nat
 ck : Nat
 a : Option Addr
 lv : Nat
 c : Nat
def F8.cells (f : F8) : List Value := [.int .i64 f.k, .bool f.b, .bool f.n.neg, .string (txt f.n.dig), .int .i64 f.n.exp, .string (txt f.s), .slice f.pk f.lk f.ck, .slice f.a f.lv f.c]
structure FRow where
 key : List UInt8
 f : F8
 val : Val
instance : Inhabited FRow := ⟨⟨[], ⟨0, false, zero, [], none, 0, 0, none, 0, 0⟩, none'⟩⟩
def encR (x : FRow) : List Value := .string (txt x.key) :: x.f.cells
theorem encR_len (x : FRow) : (encR x).length = 9 := rfl
theorem encR_one (x : FRow) : ∀ v ∈ encR x, v.oneCell' = true := by
 intro v hv
 simp [encR, F8.cells] at hv
 rcases hv with rfl | rfl | rfl | rfl | rfl | rfl | rfl | rfl | rfl <;> rfl
def GD (W w : World) : Prop := ∃ q os, w = grow (W.drewN q) os
theorem GD.refl (W : World) : GD W W := ⟨0, #[], by simp [grow, World.drewN]⟩
theorem GD.trans {A B C : World} (h : GD A B) (k : GD B C) : GD A C := by
 obtain ⟨q, os, rfl⟩ := h
 obtain ⟨q', os', rfl⟩ := k
 exact ⟨q + q', os ++ os', by simp [grow, World.drewN, Nat.add_assoc, Array.append_assoc]⟩
theorem GD.drewN {W w : World} (h : GD W w) (n : Nat) : GD W (w.drewN n) := h.trans ⟨n, #[], by rw [grow_empty]⟩
theorem GD.alloc {W w : World} (h : GD W w) (o : Obj) : GD W (w.alloc o) := h.trans ⟨0, #[o], by rw [alloc_eq_grow]; rfl⟩
theorem GD.block {W w : World} (h : GD W w) {k : Nat} (hk : k < W.heap.size) : w.heap[k]? = W.heap[k]? := by
 obtain ⟨q, os, rfl⟩ := h
 show (W.heap ++ os)[k]? = _
 exact Array.getElem?_append_left hk
theorem GD.cell {W w : World} (h : GD W w) {b i : Nat} {v : Value} (hc : W.cell? ⟨b, i, none⟩ = some v) : w.cell? ⟨b, i, none⟩ = some v := by
 have hb := World.block_lt_of_cell? _ _ hc
 unfold World.cell? at hc ⊢
 rw [h.block hb]
 exact hc
set_option maxRecDepth 100000 in
set_option maxHeartbeats 1000000 in
theorem so1_any (s : ByteArray) (v1 v2 v3 v4 v5 v6 v7 v8 : Value) (w : World) : Calls Tryz.prog 82 #[.agg #[.string s, v1, v2, v3, v4, v5, v6, v7, v8]] w fun e w' => e = .returned (.string s) ∧ GD w w' := by
 have hA := World.alloc_heap_new w (.cells #[.string s, v1, v2, v3, v4, v5, v6, v7, v8] 116)
 have c0 := cell_of hA 0
 have hG := (GD.refl w).alloc (.cells #[.string s, v1, v2, v3, v4, v5, v6, v7, v8] 116)
 go_enter Tryz.func82, Tryz.ntmps82
 go_wp2_with fail
 go_ret
 exact ⟨rfl, hG⟩
set_option maxRecDepth 100000 in
set_option maxHeartbeats 4000000 in
theorem cmp_any (x y : FRow) (B : Nat) (W : World) (hB : W.cell? ⟨B, 0, none⟩ = some (.func (.func 82) #[] #[])) :
   Calls Tryz.prog 117 #[.agg (encR x).toArray, .agg (encR y).toArray, .pointer (some ⟨B, 0, none⟩)] W fun e w' => e = .returned (.int .i64 (Lib.compareBytes x.key y.key)) ∧ GD W w' := by
 show Calls Tryz.prog 117 #[.agg #[.string (txt x.key), .int .i64 x.f.k, .bool x.f.b, .bool x.f.n.neg, .string (txt x.f.n.dig), .int .i64 x.f.n.exp, .string (txt x.f.s), .slice x.f.pk x.f.lk x.f.ck, .slice x.f.a x.f.lv x.f.c], .agg #[.string (txt y.key), .int .i64 y.f.k, .bool y.f.b, .bool y.f.n.neg, .string (txt y.f.n.dig), .int .i64 y.f.n.exp, .string (txt y.f.s), .slice y.f.pk y.f.lk y.f.ck, .slice y.f.a y.f.lv y.f.c], .pointer (some ⟨B, 0, none⟩)] W _
 have hA0 := new_of (World.alloc_heap_new W (.cells #[.string (txt x.key), .int .i64 x.f.k, .bool x.f.b, .bool x.f.n.neg, .string (txt x.f.n.dig), .int .i64 x.f.n.exp, .string (txt x.f.s), .slice x.f.pk x.f.lk x.f.ck, .slice x.f.a x.f.lv x.f.c] 116)) (.cells #[.string (txt y.key), .int .i64 y.f.k, .bool y.f.b, .bool y.f.n.neg, .string (txt y.f.n.dig), .int .i64 y.f.n.exp, .string (txt y.f.s), .slice y.f.pk y.f.lk y.f.ck, .slice y.f.a y.f.lv y.f.c] 116)
 have hB0 := World.alloc_heap_new (W.alloc (.cells #[.string (txt x.key), .int .i64 x.f.k, .bool x.f.b, .bool x.f.n.neg, .string (txt x.f.n.dig), .int .i64 x.f.n.exp, .string (txt x.f.s), .slice x.f.pk x.f.lk x.f.ck, .slice x.f.a x.f.lv x.f.c] 116)) (.cells #[.string (txt y.key), .int .i64 y.f.k, .bool y.f.b, .bool y.f.n.neg, .string (txt y.f.n.dig), .int .i64 y.f.n.exp, .string (txt y.f.s), .slice y.f.pk y.f.lk y.f.ck, .slice y.f.a y.f.lv y.f.c] 116)
 rw [World.size_alloc] at hB0
 have hG0 := ((GD.refl W).alloc (.cells #[.string (txt x.key), .int .i64 x.f.k, .bool x.f.b, .bool x.f.n.neg, .string (txt x.f.n.dig), .int .i64 x.f.n.exp, .string (txt x.f.s), .slice x.f.pk x.f.lk x.f.ck, .slice x.f.a x.f.lv x.f.c] 116)).alloc (.cells #[.string (txt y.key), .int .i64 y.f.k, .bool y.f.b, .bool y.f.n.neg, .string (txt y.f.n.dig), .int .i64 y.f.n.exp, .string (txt y.f.s), .slice y.f.pk y.f.lk y.f.ck, .slice y.f.a y.f.lv y.f.c] 116)
 have hF0 := hG0.cell hB
 have hc := fun wx => Tryz.strings_Compare (txt x.key) (txt y.key) wx
 simp only [txt_list] at hc
 generalize Lib.compareBytes x.key y.key = z at *
 obtain ⟨W0, hW0⟩ : ∃ W0, (W.alloc (.cells #[.string (txt x.key), .int .i64 x.f.k, .bool x.f.b, .bool x.f.n.neg, .string (txt x.f.n.dig), .int .i64 x.f.n.exp, .string (txt x.f.s), .slice x.f.pk x.f.lk x.f.ck, .slice x.f.a x.f.lv x.f.c] 116)).alloc (.cells #[.string (txt y.key), .int .i64 y.f.k, .bool y.f.b, .bool y.f.n.neg, .string (txt y.f.n.dig), .int .i64 y.f.n.exp, .string (txt y.f.s), .slice y.f.pk y.f.lk y.f.ck, .slice y.f.a y.f.lv y.f.c] 116) = W0 := ⟨_, rfl⟩
 rw [hW0] at hA0 hB0 hG0 hF0
 have a0 := cell_of hA0 0
 have a1 := cell_of hA0 1
 have a2 := cell_of hA0 2
 have a3 := cell_of hA0 3
 have a4 := cell_of hA0 4
 have a5 := cell_of hA0 5
 have a6 := cell_of hA0 6
 have a7 := cell_of hA0 7
 have a8 := cell_of hA0 8
 have b0 := cell_of hB0 0
 have b1 := cell_of hB0 1
 have b2 := cell_of hB0 2
 have b3 := cell_of hB0 3
 have b4 := cell_of hB0 4
 have b5 := cell_of hB0 5
 have b6 := cell_of hB0 6
 have b7 := cell_of hB0 7
 have b8 := cell_of hB0 8
 simp only [List.getElem?_toArray, List.getElem?_cons_zero, List.getElem?_cons_succ] at a0 a1 a2 a3 a4 a5 a6 a7 a8 b0 b1 b2 b3 b4 b5 b6 b7 b8
 generalize txt x.key = kx at *
 generalize txt y.key = ky at *
 clear hA0 hB0
 go_enter Tryz.func117, Tryz.ntmps117
 go_wp2_with fail
 clear hW0
 have hG1 : GD W W0.drew := hG0.drewN 1
 go_region_held3 (fun wx => wx.cell? ⟨B, 0, none⟩ = some (.func (.func 82) #[] #[]) ∧ wx.cell? ⟨W.heap.size, 0, none⟩ = some (.string kx) ∧ wx.cell? ⟨W.heap.size, 1, none⟩ = some (.int .i64 x.f.k) ∧ wx.cell? ⟨W.heap.size, 2, none⟩ = some (.bool x.f.b) ∧ wx.cell? ⟨W.heap.size, 3, none⟩ = some (.bool x.f.n.neg) ∧ wx.cell? ⟨W.heap.size, 4, none⟩ = some (.string (txt x.f.n.dig)) ∧ wx.cell? ⟨W.heap.size, 5, none⟩ = some (.int .i64 x.f.n.exp) ∧ wx.cell? ⟨W.heap.size, 6, none⟩ = some (.string (txt x.f.s)) ∧ wx.cell? ⟨W.heap.size, 7, none⟩ = some (.slice x.f.pk x.f.lk x.f.ck) ∧ wx.cell? ⟨W.heap.size, 8, none⟩ = some (.slice x.f.a x.f.lv x.f.c) ∧ wx.cell? ⟨W.heap.size + 1, 0, none⟩ = some (.string ky) ∧ wx.cell? ⟨W.heap.size + 1, 1, none⟩ = some (.int .i64 y.f.k) ∧ wx.cell? ⟨W.heap.size + 1, 2, none⟩ = some (.bool y.f.b) ∧ wx.cell? ⟨W.heap.size + 1, 3, none⟩ = some (.bool y.f.n.neg) ∧ wx.cell? ⟨W.heap.size + 1, 4, none⟩ = some (.string (txt y.f.n.dig)) ∧ wx.cell? ⟨W.heap.size + 1, 5, none⟩ = some (.int .i64 y.f.n.exp) ∧ wx.cell? ⟨W.heap.size + 1, 6, none⟩ = some (.string (txt y.f.s)) ∧ wx.cell? ⟨W.heap.size + 1, 7, none⟩ = some (.slice y.f.pk y.f.lk y.f.ck) ∧ wx.cell? ⟨W.heap.size + 1, 8, none⟩ = some (.slice y.f.a y.f.lv y.f.c) ∧ GD W wx)
   (first | assumption | (exact ⟨by assumption, by assumption⟩) | (refine ⟨?_, ?_⟩ <;> first | assumption | go_keep) | go_keep)
   (first | (go_at_call 82; refine (so1_any _ _ _ _ _ _ _ _ _ _).mono ?_; rintro e wz ⟨rfl, hg⟩; have m0 : wz.cell? ⟨B, 0, none⟩ = some (.func (.func 82) #[] #[]) := hg.cell (by assumption); have m1 : wz.cell? ⟨W.heap.size, 0, none⟩ = some (.string kx) := hg.cell (by assumption); have m2 : wz.cell? ⟨W.heap.size, 1, none⟩ = some (.int .i64 x.f.k) := hg.cell (by assumption); have m3 : wz.cell? ⟨W.heap.size, 2, none⟩ = some (.bool x.f.b) := hg.cell (by assumption); have m4 : wz.cell? ⟨W.heap.size, 3, none⟩ = some (.bool x.f.n.neg) := hg.cell (by assumption); have m5 : wz.cell? ⟨W.heap.size, 4, none⟩ = some (.string (txt x.f.n.dig)) := hg.cell (by assumption); have m6 : wz.cell? ⟨W.heap.size, 5, none⟩ = some (.int .i64 x.f.n.exp) := hg.cell (by assumption); have m7 : wz.cell? ⟨W.heap.size, 6, none⟩ = some (.string (txt x.f.s)) := hg.cell (by assumption); have m8 : wz.cell? ⟨W.heap.size, 7, none⟩ = some (.slice x.f.pk x.f.lk x.f.ck) := hg.cell (by assumption); have m9 : wz.cell? ⟨W.heap.size, 8, none⟩ = some (.slice x.f.a x.f.lv x.f.c) := hg.cell (by assumption); have m10 : wz.cell? ⟨W.heap.size + 1, 0, none⟩ = some (.string ky) := hg.cell (by assumption); have m11 : wz.cell? ⟨W.heap.size + 1, 1, none⟩ = some (.int .i64 y.f.k) := hg.cell (by assumption); have m12 : wz.cell? ⟨W.heap.size + 1, 2, none⟩ = some (.bool y.f.b) := hg.cell (by assumption); have m13 : wz.cell? ⟨W.heap.size + 1, 3, none⟩ = some (.bool y.f.n.neg) := hg.cell (by assumption); have m14 : wz.cell? ⟨W.heap.size + 1, 4, none⟩ = some (.string (txt y.f.n.dig)) := hg.cell (by assumption); have m15 : wz.cell? ⟨W.heap.size + 1, 5, none⟩ = some (.int .i64 y.f.n.exp) := hg.cell (by assumption); have m16 : wz.cell? ⟨W.heap.size + 1, 6, none⟩ = some (.string (txt y.f.s)) := hg.cell (by assumption); have m17 : wz.cell? ⟨W.heap.size + 1, 7, none⟩ = some (.slice y.f.pk y.f.lk y.f.ck) := hg.cell (by assumption); have m18 : wz.cell? ⟨W.heap.size + 1, 8, none⟩ = some (.slice y.f.a y.f.lv y.f.c) := hg.cell (by assumption); have m19 : GD W wz := GD.trans (by assumption) hg) | (go_at_call 118; refine (hc _).mono ?_; rintro e wz ⟨rfl, rfl⟩))
 all_goals
   go_wp2_with fail
   go_ret
   exact ⟨rfl, by assumption⟩
theorem compare_less : ∀ a b : List UInt8, Lib.compareBytes a b < 0 ↔ less a b = true
 | [], [] => by simp [Lib.compareBytes, less, Op.bytesLess]
 | [], _ :: _ => by simp [Lib.compareBytes, less, Op.bytesLess]
 | _ :: _, [] => by simp [Lib.compareBytes, less, Op.bytesLess]
 | x :: a, y :: b => by
   have ih := compare_less a b
   unfold less at ih ⊢
   rw [Lib.compareBytes]
   simp only [Op.bytesLess, Bool.or_eq_true, Bool.and_eq_true, decide_eq_true_eq, beq_iff_eq]
   by_cases h1 : x < y
   · simp [h1]
   · rw [if_neg h1]
     by_cases h2 : y < x
     · rw [if_pos h2]
       have h3 : x ≠ y := fun e => by subst e; exact h1 h2
       simp [h1, h3]
     · rw [if_neg h2, ih]
       have h3 : x = y := UInt8.le_antisymm (UInt8.not_lt.1 h2) (UInt8.not_lt.1 h1)
       simp [h3]
def cfR (x y : FRow) : Int := Lib.compareBytes x.key y.key
theorem ltR (x y : FRow) : ltOf cfR x y = less x.key y.key := by
 unfold ltOf cfR
 by_cases h : Lib.compareBytes x.key y.key < 0
 · rw [decide_eq_true h, (compare_less _ _).1 h]
 · rw [decide_eq_false h]
   cases hl : less x.key y.key with
   | false => rfl
   | true => exact absurd ((compare_less _ _).2 hl) h
theorem swoR : SWO (ltOf cfR) where
 irrefl x := by rw [ltR]; exact less_self _
 trans x y z h1 h2 := by rw [ltR] at *; exact less_trans h1 h2
 ntrans x y z h1 h2 := by
   rw [ltR] at *
   cases h : less x.key z.key with
   | false => rfl
   | true =>
     by_cases e : y.key = z.key
     · rw [e] at h1
       rw [h1] at h
       cases h
     · have h3 := less_total (a := y.key) (b := z.key) e h2
       have h4 := less_trans h h3
       rw [h1] at h4
       cases h4
def Risen (d : Array FRow) (blk : Nat) (w : World) (e : Ending) (w' : World) : Prop :=
 e = .returned (.tuple #[]) ∧ (∃ d' : Array FRow, d'.size = d.size ∧ d'.toList.Perm d.toList ∧ d'.toList.Pairwise (fun x y => less y.key x.key = false) ∧ HoldsK encR 9 w' blk 0 d') ∧ w.grownBy w' (some blk)
theorem sorted_pairwise {d : Array FRow} (h : SortedIn (ltOf cfR) 0 d.size d) : d.toList.Pairwise (fun x y => less y.key x.key = false) := by
 rw [List.pairwise_iff_getElem]
 intro i j hi hj hij
 have h1 := h i j (Nat.zero_le _) hij (by simpa using hj)
 rw [ltR] at h1
 rw [getElem!_pos d j (by simpa using hj), getElem!_pos d i (by simpa using hi)] at h1
 simpa using h1
theorem perm_list {d d' : Array FRow} (h : PermIn 0 d.size d d') : d'.size = d.size ∧ d'.toList.Perm d.toList := by
 obtain ⟨hs, _, hp⟩ := h
 refine ⟨hs, ?_⟩
 have e1 : d'.extract 0 d.size = d' := by rw [← hs]; exact Array.extract_size
 have e2 : d.extract 0 d.size = d := Array.extract_size
 rwa [e1, e2] at hp
set_option maxRecDepth 100000 in
set_option maxHeartbeats 4000000 in
theorem rise_any {d : Array FRow} {blk cap : Nat} {w : World} (hH : HoldsK encR 9 w blk 0 d) (hblk : blk < w.heap.size) (hsz : d.size < 1000000) :
   Calls Tryz.prog 81 #[.slice (some ⟨blk, 0, none⟩) d.size cap, .func (.func 82) #[] #[]] w (Risen d blk w) := by
 have hN := World.alloc_heap_new w (.cells #[.func (.func 82) #[] #[]] 118)
 have eg : ∀ args w, (callFunc 117 args).run Tryz.prog w = .ok (.enter 117 args) w := enters_of Tryz.func117 (by kernel_rfl) rfl
 have hW1 : HoldsK encR 9 (w.alloc (.cells #[.func (.func 82) #[] #[]] 118)) blk 0 d := by
   rw [alloc_eq_grow]
   exact holdsK_grow encR 9 w _ blk 0 d hblk hH
 have hcmp : CmpLays Tryz.prog 117 #[.pointer (some ⟨w.heap.size, 0, none⟩)] encR 9 cfR blk 0 d.size (w.alloc (.cells #[.func (.func 82) #[] #[]] 118)) := by
   intro m os dk hdk x y
   refine (cmp_any x y w.heap.size _ ?_).mono ?_
   · unfold sortWorldK
     exact GD.cell (W := putRowK encR 9 (Sort.ahead (w.alloc (.cells #[.func (.func 82) #[] #[]] 118)) m) blk 0 dk) ⟨0, os, rfl⟩ ((cell?_putRowK_other encR 9 _ blk 0 dk ⟨w.heap.size, 0, none⟩ (by show w.heap.size ≠ blk; omega)).trans (cell_of hN 0))
   · rintro e w' ⟨he, hg⟩
     exact ⟨he, hg⟩
 have hcon := AnyQ.slices_SortFunc Tryz.sortf 9 Tryz.isAgg116 Tryz.sizeOf116 encR encR_len encR_one cfR swoR 117 #[.pointer (some ⟨w.heap.size, 0, none⟩)] blk 0 cap d (w.alloc (.cells #[.func (.func 82) #[] #[]] 118)) eg hcmp hW1 (by simp; omega) (by omega)
 change Calls Tryz.prog 116 _ _ _ at hcon
 have HC := Lib.hid hcon
 have HW1 := Lib.hid hW1
 clear hcon hcmp hW1 hH
 go_enter Tryz.func81, Tryz.ntmps81
 go_wp2_with fail
 refine HC.out.mono ?_
 rintro e w1 ⟨rfl, d', q, os, hp, hs, hw1⟩
 obtain ⟨hz, hpl⟩ := perm_list hp
 have hrow : HoldsK encR 9 w1 blk 0 d' := by
   rw [hw1]
   unfold sortWorldK
   refine holdsK_grow encR 9 _ os blk 0 d' ?_ (holdsK_putRowK encR 9 _ blk 0 d d' (holdsK_ahead encR 9 _ q blk 0 d HW1.out) hz)
   show blk < (Array.modify _ _ _).size
   rw [Array.size_modify]
   show blk < (w.alloc _).heap.size
   simp
   omega
 have hgr : w.grownBy w1 (some blk) := by
   suffices h2 : (w.alloc (.cells #[.func (.func 82) #[] #[]] 118)).grownBy w1 (some blk) from
     (World.grownBy_alloc w (.cells #[.func (.func 82) #[] #[]] 118) (some blk)).andThen h2 (fun j e => by cases e; exact .inr rfl)
   rw [hw1]
   refine ⟨rfl, rfl, rfl, ?_, fun k hk hne => ?_⟩
   · show _ ≤ (Array.modify _ _ _ ++ os).size
     simp
   · show (Array.modify _ _ _ ++ os)[k]? = _
     rw [Array.getElem?_append_left (by rw [Array.size_modify]; exact hk), Array.getElem?_modify]
     have : blk ≠ k := fun e => hne (by rw [e])
     simp [this]
 have hsd : d'.toList.Pairwise (fun x y => less y.key x.key = false) := sorted_pairwise (by rw [hz]; exact hs)
 have FIN := Lib.hid (show Risen d blk w (.returned (.tuple #[])) w1 from ⟨rfl, ⟨d', hz, hpl, hsd, hrow⟩, hgr⟩)
 clear hw1 hz hpl hrow hgr hsd hp hs
 go_wp2_with fail
 go_end0
 exact FIN.out
end Go.Proofs.YtlfbnfphocpgeaaGreatDoor.Tre
namespace Go.Proofs.YtlfbnfphocpgeaaGreatDoor.Tre
open Go.RowKit Kit Txt Go.Sort
open Num (Dec zero)
theorem sep_f8 {w : World} {lo hi : Nat} {cs : List Value} {v : Val} (h : Sep w lo hi cs v) : ∃ f : F8, cs = f.cells := by
 obtain ⟨k, i, n, s, ks, vs⟩ := v
 rw [Sep] at h
 obtain ⟨uk, a, c, p, rfl, -, -, ⟨pk, ck, rfl, -⟩, -⟩ := h
 exact ⟨⟨k, i, n, s, pk, ks.length, ck, a, vs.length, c⟩, rfl⟩
theorem Seps.bounds {w : World} {g : Nat} : ∀ {vs : List Val} {lo hi off : Nat}, Seps w lo hi g off vs → ∃ (bnd : Nat → Nat) (fr : Nat → F8), lo ≤ bnd 0 ∧ (∀ i, i < vs.length → bnd i ≤ bnd (i + 1)) ∧ bnd vs.length ≤ hi ∧
   ∀ (i : Nat) (v : Val), vs[i]? = some v → At8 w g (off + i * 8) (fr i).cells ∧ Sep w (bnd i) (bnd (i + 1)) (fr i).cells v
 | [], lo, hi, off, h => by
   rw [Seps] at h
   exact ⟨fun _ => lo, fun _ => ⟨0, false, zero, [], none, 0, 0, none, 0, 0⟩, Nat.le_refl _, fun i hi => absurd hi (Nat.not_lt_zero _), h, fun i v hv => by simp at hv⟩
 | x :: r, lo, hi, off, h => by
   rw [Seps] at h
   obtain ⟨m, h1, ⟨cs, h8, hv⟩, hr⟩ := h
   obtain ⟨f, rfl⟩ := sep_f8 hv
   obtain ⟨bnd, fr, e1, e2, e3, e4⟩ := Seps.bounds hr
   refine ⟨fun i => match i with | 0 => lo | i + 1 => bnd i, fun i => match i with | 0 => f | i + 1 => fr i, Nat.le_refl _, fun i hi => ?_, e3, fun i v hv2 => ?_⟩
   · rcases i with _ | i
     · exact Nat.le_trans h1 e1
     · exact e2 i (by simpa using hi)
   · rcases i with _ | i
     · simp at hv2
       subst hv2
       exact ⟨by simpa using h8, hv.mono e1⟩
     · have := e4 i v (by simpa using hv2)
       exact ⟨by rw [show off + (i + 1) * 8 = off + 8 + i * 8 by omega]; exact this.1, this.2⟩
theorem bnd_le {bnd : Nat → Nat} {n : Nat} (h : ∀ i, i < n → bnd i ≤ bnd (i + 1)) : ∀ {j i : Nat}, i ≤ j → j ≤ n → bnd i ≤ bnd j
 | 0, i, hij, _ => by
   have : i = 0 := by omega
   subst this
   exact Nat.le_refl _
 | j + 1, i, hij, hj => by
   by_cases e : i = j + 1
   · subst e
     exact Nat.le_refl _
   · exact Nat.le_trans (bnd_le h (j := j) (i := i) (by omega) (by omega)) (h j (by omega))
def Turn (lo hi : Nat) (w w' : World) : Prop := Below lo w w' ∧ ∀ k, hi ≤ k → k < w.heap.size → w'.heap[k]? = w.heap[k]?
theorem Turn.trans {lo hi : Nat} {a b c : World} (h : Turn lo hi a b) (k : Turn lo hi b c) : Turn lo hi a c := ⟨h.1.trans k.1, fun j h1 h2 => (k.2 j h1 (Nat.lt_of_lt_of_le h2 h.1.size)).trans (h.2 j h1 h2)⟩
theorem Turn.of_below {lo hi : Nat} {a b : World} (h : Below a.heap.size a b) (hl : lo ≤ a.heap.size) : Turn lo hi a b := ⟨h.mono hl, fun j _ h2 => h.block j h2⟩
theorem Turn.wide {lo hi lo' hi' : Nat} {a b : World} (h : Turn lo hi a b) (hl : lo' ≤ lo) (hh : hi ≤ hi') : Turn lo' hi' a b := ⟨h.1.mono hl, fun j h1 h2 => h.2 j (Nat.le_trans hh h1) h2⟩
theorem F8.at {w : World} {g off : Nat} {f : F8} (h : At8 w g off f.cells) :
   w.cell? ⟨g, off, none⟩ = some (.int .i64 f.k) ∧ w.cell? ⟨g, off + 1, none⟩ = some (.bool f.b) ∧ w.cell? ⟨g, off + 2, none⟩ = some (.bool f.n.neg) ∧ w.cell? ⟨g, off + 3, none⟩ = some (.string (txt f.n.dig)) ∧
   w.cell? ⟨g, off + 4, none⟩ = some (.int .i64 f.n.exp) ∧ w.cell? ⟨g, off + 5, none⟩ = some (.string (txt f.s)) ∧ w.cell? ⟨g, off + 6, none⟩ = some (.slice f.pk f.lk f.ck) ∧ w.cell? ⟨g, off + 7, none⟩ = some (.slice f.a f.lv f.c) :=
 ⟨h.2 0 (by omega), h.2 1 (by omega), h.2 2 (by omega), h.2 3 (by omega), h.2 4 (by omega), h.2 5 (by omega), h.2 6 (by omega), h.2 7 (by omega)⟩
theorem infoFld : (Tryz.prog.info? 116).map (fun i => (i.zero.isSome, i.size, i.bytes)) = some (true, 9, 128) := by kernel_rfl
theorem make_fld {n : Nat} (hn : n < 1000000) (w : World) : ∃ arr : Array Value, arr.size = n * 9 ∧ (Instr.makeSlice 114 (.int .i64 (n : Int)) (.int .i64 (n : Int))).run Tryz.prog w = .ok (.slice (some ⟨w.heap.size, 0, none⟩) n n) (w.alloc (.cells arr 116)) := by
 obtain ⟨i, hi, hzz⟩ := Option.map_eq_some_iff.1 infoFld
 simp only [Prod.mk.injEq] at hzz
 obtain ⟨hz, hs, hb⟩ := hzz
 obtain ⟨z, hz⟩ := Option.isSome_iff_exists.1 hz
 have hr := run_make (P := Tryz.prog) w 114 116 i _ Tryz.underlying114 hi hz .i64 .i64 n n (by omega) (by omega) (by rw [hb]; omega) (by omega)
 simp only [Int.toNat_natCast] at hr
 exact ⟨_, by rw [size_madeCells, hs], hr⟩
def put9 (W : World) (g o : Nat) (u a b c d e f x y : Value) : World :=
 ((((((((W.setCell ⟨g, o, none⟩ u).setCell ⟨g, o + 1, none⟩ a).setCell ⟨g, o + 2, none⟩ b).setCell ⟨g, o + 3, none⟩ c).setCell ⟨g, o + 4, none⟩ d).setCell ⟨g, o + 5, none⟩ e).setCell ⟨g, o + 6, none⟩ f).setCell ⟨g, o + 7, none⟩ x).setCell ⟨g, o + 8, none⟩ y
theorem put9_eq (W : World) (g o : Nat) (u a b c d e f x y : Value) : put9 W g o u a b c d e f x y = put8 (W.setCell ⟨g, o, none⟩ u) g (o + 1) a b c d e f x y := rfl
theorem put9_own {W : World} {g o : Nat} {arr : Array Value} {t : TypeId} {fr : Nat × Nat} (h : W.heap[g]? = some (.cells arr t fr)) (u a b c d e f x y : Value) : ∃ arr' : Array Value, arr'.size = arr.size ∧ (put9 W g o u a b c d e f x y).heap[g]? = some (.cells arr' t fr) := by
 obtain ⟨arr', h1, h2⟩ := put8_own (set_of h o u) a b c d e f x y (o := o + 1)
 exact ⟨arr', by rw [h1, Array.size_setIfInBounds], h2⟩
theorem put9_cell {W : World} {g o i : Nat} (hi : i < o ∨ o + 9 ≤ i) (u a b c d e f x y : Value) : (put9 W g o u a b c d e f x y).cell? ⟨g, i, none⟩ = W.cell? ⟨g, i, none⟩ := by
 rw [put9_eq, put8_cell (by omega), World.cell?_setCell_other _ _ _ _ (show (⟨g, o, none⟩ : Addr) ≠ ⟨g, i, none⟩ from fun e => by injection e with _ e _; omega)]
theorem put9_at {W : World} {g o : Nat} {arr : Array Value} {t : TypeId} {fr : Nat × Nat} (h : W.heap[g]? = some (.cells arr t fr)) (ho : o + 9 ≤ arr.size) (u a b c d e f x y : Value) : ∀ j, j < 9 → (put9 W g o u a b c d e f x y).cell? ⟨g, o + j, none⟩ = [u, a, b, c, d, e, f, x, y][j]? := by
 intro j hj
 have h1 := set_of h o u
 rcases j with _ | j
 · rw [Nat.add_zero, put9_eq, put8_cell (.inl (by omega)), cell_of h1, Array.getElem?_setIfInBounds_self_of_lt (by omega)]
   rfl
 · have := (put8_at h1 (o := o + 1) (by rw [Array.size_setIfInBounds]; omega) a b c d e f x y).2 j (by omega)
   rw [put9_eq, show o + (j + 1) = o + 1 + j by omega, this]
   rfl
theorem put9_below {N : Nat} {w W : World} {g : Nat} (h : Below N w W) (hg : N ≤ g) (o : Nat) (u a b c d e f x y : Value) : Below N w (put9 W g o u a b c d e f x y) := by
 rw [put9_eq]
 exact put8_below (h.setCell (p := ⟨g, o, none⟩) hg u) hg _ _ _ _ _ _ _ _ _
theorem block9 {W : World} {g o : Nat} {arr : Array Value} {t : TypeId} {fr : Nat × Nat} (h : W.heap[g]? = some (.cells arr t fr)) (ho : o + 9 ≤ arr.size) : ∃ z0 z1 z2 z3 z4 z5 z6 z7 z8 : Value, W.cell? ⟨g, o, none⟩ = some z0 ∧ W.cell? ⟨g, o + 1, none⟩ = some z1 ∧ W.cell? ⟨g, o + 2, none⟩ = some z2 ∧ W.cell? ⟨g, o + 3, none⟩ = some z3 ∧ W.cell? ⟨g, o + 4, none⟩ = some z4 ∧ W.cell? ⟨g, o + 5, none⟩ = some z5 ∧ W.cell? ⟨g, o + 6, none⟩ = some z6 ∧ W.cell? ⟨g, o + 7, none⟩ = some z7 ∧ W.cell? ⟨g, o + 8, none⟩ = some z8 := by
 refine ⟨arr[o], arr[o + 1], arr[o + 2], arr[o + 3], arr[o + 4], arr[o + 5], arr[o + 6], arr[o + 7], arr[o + 8], ?_⟩
 refine ⟨?_, ?_, ?_, ?_, ?_, ?_, ?_, ?_, ?_⟩
 all_goals rw [cell_of h]; exact Array.getElem?_eq_getElem _
theorem holdsK_of {w : World} {g n : Nat} {d : Array FRow} (hn : d.size = n) (hb : Blk w g) (h : ∀ i, i < n → ∀ t, t < 9 → w.cell? ⟨g, i * 9 + t, none⟩ = (encR d[i]!)[t]?) : HoldsK encR 9 w g 0 d := by
 intro j hj
 have hj' : j < d.size * 9 := by simpa using hj
 refine ⟨?_, hb.free _⟩
 rw [get_flatK _ _ _ _ hj', Nat.zero_add]
 have e := h (j / 9) (by omega) (j % 9) (by omega)
 rw [show j / 9 * 9 + j % 9 = j by omega] at e
 have hl : (encR d[j / 9]!).length = 9 := rfl
 generalize encR d[j / 9]! = L at *
 have hlt : j % 9 < L.length := by omega
 rw [e, List.getElem?_eq_getElem hlt, getElem!_pos L (j % 9) hlt]
 rfl
theorem rows_of {ks : List (List UInt8)} {vs : List Val} {l d : List FRow} (hl : ks.length = vs.length) (hn : ks.Nodup) (hd : d.map (fun x => (x.key, x.val)) = ks.zip (sorts vs)) (hp : l.Perm d) (hs : l.Pairwise (fun x y => less y.key x.key = false)) : l.map (fun x => (x.key, x.val)) = rows ks vs := by
 have hp2 : (l.map (fun x => (x.key, x.val))).Perm (ks.zip (sorts vs)) := by
   rw [← hd]
   exact hp.map _
 have hks : ((ks.zip (sorts vs)).map (·.1)) = ks := zip_map_fst (by rw [sorts_len]; exact hl)
 have hnd : (l.map (·.key)).Nodup := by
   have h1 := (hp2.map (·.1)).nodup_iff
   rw [hks] at h1
   have h2 := h1.2 hn
   rwa [List.map_map] at h2
 refine rises_one ?_ (rows_rises hl hn) (hp2.trans (sortP_perm _).symm)
 unfold Rises
 rw [List.pairwise_map]
 have h3 : l.Pairwise (fun x y => x.key ≠ y.key) := by
   have := hnd
   unfold List.Nodup at this
   rwa [List.pairwise_map] at this
 refine (hs.and h3).imp ?_
 rintro x y ⟨h1, h2⟩
 cases h : less x.key y.key with
 | true => rfl
 | false => rw [less_total h2 h] at h1; cases h1
def fld (ks : List (List UInt8)) (vs : List Val) (fr : Nat → F8) (i : Nat) : FRow := ⟨ks.getD i [], fr i, sort (vs.getD i none')⟩
theorem fld_zip {ks : List (List UInt8)} {vs : List Val} (fr : Nat → F8) (hl : ks.length = vs.length) : ((List.range ks.length).map (fld ks vs fr)).map (fun x => (x.key, x.val)) = ks.zip (sorts vs) := by
 apply List.ext_getElem
 · simp [sorts_len, hl]
 · intro i h1 h2
   have h3 : i < ks.length := by simpa using h1
   have h4 : i < vs.length := by omega
   simp only [List.getElem_map, List.getElem_range, fld, List.getElem_zip, sorts_map]
   rw [List.getD_eq_getElem?_getD, List.getElem?_eq_getElem h3, List.getD_eq_getElem?_getD, List.getElem?_eq_getElem h4]
   rfl
theorem holdP_mk {X : Nat → Prop} {w : World} {k : Int} {b : Bool} {n : Dec} {s : List UInt8} {ak a : Option Addr} {ck c lk lv : Nat} {K : List (List UInt8)} {V : List Val} (hK : K.length = lk) (hV : V.length = lv) (h1 : KsP X w (.slice ak lk ck) K) (h2 : lv ≤ c) (h3 : c ≤ 9223372036854775807)
   (h4 : V = [] ∨ ∃ g, a = some ⟨g, 0, none⟩ ∧ X g ∧ g < w.heap.size ∧ HoldsP X w g 0 V) : HoldP X w (cellsV k b n s (.slice ak lk ck) (.slice a lv c)) ⟨k, b, n, s, K, V⟩ := by
 subst hK
 subst hV
 rw [HoldP]
 exact ⟨_, a, c, rfl, h1, h2, h3, h4.imp id fun ⟨g, ha, hX, hg, hx⟩ => ⟨g, 0, ha, hX, hg, hx⟩⟩
theorem sorted_list {X : Nat → Prop} {w : World} {k : Int} {b : Bool} {n : Dec} {s : List UInt8} {ak a : Option Addr} {ck c : Nat} {vs : List Val} {fr : Nat → F8} {g : Nat} (h6 : k ≠ 6) (hmk : ck ≤ 9223372036854775807) (hc : vs.length ≤ c) (hm : c ≤ 9223372036854775807)
   (hg : vs ≠ [] → a = some ⟨g, 0, none⟩ ∧ X g ∧ g < w.heap.size) (h8 : ∀ (i : Nat) (x : Val), vs[i]? = some x → At8 w g (i * 8) (fr i).cells ∧ HoldP X w (fr i).cells (sort x)) : HoldP X w (cellsV k b n s (.slice ak ([] : List (List UInt8)).length ck) (.slice a vs.length c)) (sort ⟨k, b, n, s, [], vs⟩) := by
 have hso : sort ⟨k, b, n, s, [], vs⟩ = if k = 6 then ⟨k, b, n, s, (rows [] vs).map (·.1), (rows [] vs).map (·.2)⟩ else ⟨k, b, n, s, [], sorts vs⟩ := sort_eq _
 rw [hso, if_neg h6]
 refine holdP_mk rfl (sorts_len vs) ⟨ak, ck, rfl, Nat.zero_le _, hmk, .inl rfl⟩ hc hm ?_
 by_cases e : vs = []
 · subst e
   exact .inl rfl
 · obtain ⟨ha, hX, hgl⟩ := hg e
   refine .inr ⟨g, ha, hX, hgl, holdsP_of fun i v hv => ?_⟩
   rw [sorts_map, List.getElem?_map] at hv
   obtain ⟨x, hx, rfl⟩ := Option.map_eq_some_iff.1 hv
   have := h8 i x hx
   exact ⟨_, by rw [Nat.zero_add]; exact this.1, this.2⟩
theorem sorted_none {X : Nat → Prop} {w : World} {b : Bool} {n : Dec} {s : List UInt8} {ak a : Option Addr} {ck c : Nat} (hmk : ck ≤ 9223372036854775807) (hm : c ≤ 9223372036854775807) : HoldP X w (cellsV 6 b n s (.slice ak ([] : List (List UInt8)).length ck) (.slice a ([] : List Val).length c)) (sort ⟨6, b, n, s, [], []⟩) := by
 have hso : sort ⟨6, b, n, s, [], []⟩ = ⟨6, b, n, s, [], []⟩ := by
   rw [sort_eq]
   rfl
 rw [hso]
 exact holdP_mk rfl rfl ⟨ak, ck, rfl, Nat.zero_le _, hmk, .inl rfl⟩ (Nat.zero_le _) hm (.inl rfl)
theorem sorted_obj {X : Nat → Prop} {w : World} {b : Bool} {n : Dec} {s : List UInt8} {ak a : Option Addr} {ck c : Nat} {ks : List (List UInt8)} {vs : List Val} {fr : Nat → F8} {d' : Array FRow} {g gk : Nat} (hl : ks.length = vs.length) (hnd : ks.Nodup) (hck : ks.length ≤ ck) (hmk : ck ≤ 9223372036854775807) (hc : vs.length ≤ c) (hm : c ≤ 9223372036854775807)
   (hak : ak = some ⟨gk, 0, none⟩) (ha : a = some ⟨g, 0, none⟩) (hXk : X gk) (hXg : X g) (hgk : gk < w.heap.size) (hg : g < w.heap.size) (hz : d'.size = ks.length) (hperm : d'.toList.Perm ((List.range ks.length).map (fld ks vs fr))) (hpw : d'.toList.Pairwise (fun x y => less y.key x.key = false))
   (hdn : ∀ i, i < ks.length → w.cell? ⟨gk, i, none⟩ = some (.string (txt (d'[i]!).key)) ∧ At8 w g (i * 8) (d'[i]!).f.cells) (hkeep : ∀ (j : Nat) (x : Val), vs[j]? = some x → HoldP X w (fr j).cells (sort x)) :
   HoldP X w (cellsV 6 b n s (.slice ak ks.length ck) (.slice a vs.length c)) (sort ⟨6, b, n, s, ks, vs⟩) := by
 have hso : sort ⟨6, b, n, s, ks, vs⟩ = if (6 : Int) = 6 then ⟨6, b, n, s, (rows ks vs).map (·.1), (rows ks vs).map (·.2)⟩ else ⟨6, b, n, s, [], sorts vs⟩ := sort_eq _
 have hr := rows_of hl hnd (fld_zip fr hl) hperm hpw
 rw [hso, if_pos rfl, ← hr, List.map_map, List.map_map]
 have hlen : d'.toList.length = ks.length := by simpa using hz
 have hat : ∀ (i : Nat) (x : FRow), d'.toList[i]? = some x → i < ks.length ∧ d'[i]! = x := fun i x hx => by
   obtain ⟨h1, h2⟩ := List.getElem?_eq_some_iff.1 hx
   have h3 : i < d'.size := by simpa using h1
   exact ⟨by omega, by rw [getElem!_pos d' i h3]; simpa using h2⟩
 refine holdP_mk (by rw [List.length_map, hlen]) (by rw [List.length_map, hlen]; exact hl) ⟨ak, ck, by rw [List.length_map, hlen], by rw [List.length_map, hlen]; exact hck, hmk, .inr ⟨gk, 0, hak, hXk, hgk, fun i l hi => ?_⟩⟩ hc hm (.inr ⟨g, ha, hXg, hg, holdsP_of fun i v hv => ?_⟩)
 · rw [List.getElem?_map] at hi
   obtain ⟨x, hx, rfl⟩ := Option.map_eq_some_iff.1 hi
   obtain ⟨h1, h2⟩ := hat i x hx
   rw [Nat.zero_add, (hdn i h1).1, h2]
   rfl
 · rw [List.getElem?_map] at hv
   obtain ⟨x, hx, rfl⟩ := Option.map_eq_some_iff.1 hv
   obtain ⟨h1, h2⟩ := hat i x hx
   have h3 := (hdn i h1).2
   rw [h2] at h3
   refine ⟨x.f.cells, by rw [Nat.zero_add]; exact h3, ?_⟩
   have h4 : x ∈ (List.range ks.length).map (fld ks vs fr) := hperm.subset (List.mem_of_getElem? hx)
   obtain ⟨j, hj, rfl⟩ := List.mem_map.1 h4
   have hj2 : j < vs.length := by rw [← hl]; exact List.mem_range.1 hj
   have h5 := hkeep j _ (List.getElem?_eq_getElem hj2)
   show HoldP X w (fr j).cells (sort (vs.getD j none'))
   rw [List.getD_eq_getElem?_getD, List.getElem?_eq_getElem hj2]
   exact h5
end Go.Proofs.YtlfbnfphocpgeaaGreatDoor.Tre
