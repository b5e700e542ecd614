/- A part of what is_holds leans on (its texts, put together). Nothing is claimed here. -/
import Derived.BigQuiet
import Derived.Deep.RegionWith
import Derived.Deep.RegionLaw
import Derived.Deep.RegionHeld3
import Derived.Deep.CutRange
import Derived.Deep.OwnRows
import Derived.Test.YtlfbnfphocpgeaaGreatDoorIs4
namespace Go.Proofs.YtlfbnfphocpgeaaGreatDoor.Tre
open Go.RowKit Kit Txt
open Num (Dec zero)
theorem drew_below (w : World) : Below w.heap.size w w.drew := below_drewN (Below.refl _ w) 1
theorem grown_cell (w : World) (b i : Nat) (v : Value) : w.grownBy (w.setCell ⟨b, i, none⟩ v) (some b) :=
 ⟨rfl, rfl, rfl, (KeepsWalks.setCell w _ v).size, fun k _ hk => Below.heap_setCell _ _ _ k (fun e => hk (by rw [e]))⟩
theorem set_other {w : World} {b b' i : Nat} {x : Obj} (h : w.heap[b']? = some x) (hne : b' ≠ b) (v : Value) : (w.setCell ⟨b, i, none⟩ v).heap[b']? = some x := (Below.heap_setCell w ⟨b, i, none⟩ v b' hne).trans h
theorem grown_trans {a b c : World} {row : Option Nat} (h : a.grownBy b row) (k : b.grownBy c row) : a.grownBy c row :=
 ⟨k.os.trans h.os, k.tape.trans h.tape, k.output.trans h.output, Nat.le_trans h.size k.size, fun i hi hr => (k.block i (Nat.lt_of_lt_of_le hi h.size) hr).trans (h.block i hi hr)⟩
theorem store8 {W : World} {g : Nat} {z0 z1 z2 z3 z4 z5 z6 z7 : Value} {t : TypeId} {fr : Nat × Nat} (h : W.heap[g]? = some (.cells #[z0, z1, z2, z3, z4, z5, z6, z7] t fr)) (a0 a1 a2 a3 a4 a5 a6 a7 : Value) :
   ((((((((W.setCell ⟨g, 0, none⟩ a0).setCell ⟨g, 1, none⟩ a1).setCell ⟨g, 2, none⟩ a2).setCell ⟨g, 3, none⟩ a3).setCell ⟨g, 4, none⟩ a4).setCell ⟨g, 5, none⟩ a5).setCell ⟨g, 6, none⟩ a6).setCell ⟨g, 7, none⟩ a7).heap[g]? = some (.cells #[a0, a1, a2, a3, a4, a5, a6, a7] t fr) := by
 have := set_of (set_of (set_of (set_of (set_of (set_of (set_of (set_of h 0 a0) 1 a1) 2 a2) 3 a3) 4 a4) 5 a5) 6 a6) 7 a7
 simpa using this
theorem grown8 (W : World) (g : Nat) (a0 a1 a2 a3 a4 a5 a6 a7 : Value) : W.grownBy ((((((((W.setCell ⟨g, 0, none⟩ a0).setCell ⟨g, 1, none⟩ a1).setCell ⟨g, 2, none⟩ a2).setCell ⟨g, 3, none⟩ a3).setCell ⟨g, 4, none⟩ a4).setCell ⟨g, 5, none⟩ a5).setCell ⟨g, 6, none⟩ a6).setCell ⟨g, 7, none⟩ a7) (some g) :=
 grown_trans (grown_trans (grown_trans (grown_trans (grown_trans (grown_trans (grown_trans (grown_cell _ g 0 _) (grown_cell _ g 1 _)) (grown_cell _ g 2 _)) (grown_cell _ g 3 _)) (grown_cell _ g 4 _)) (grown_cell _ g 5 _)) (grown_cell _ g 6 _)) (grown_cell _ g 7 _)
theorem new8 (w : World) (c : List Value) (_hc : c.length = 8) : ∀ j, j < 8 → (w.alloc (.cells c.toArray 29)).cell? ⟨w.heap.size, j, none⟩ = c[j]? := fun j _ => by
 rw [cell_of (World.alloc_heap_new w (.cells c.toArray 29))]
 simp
theorem HoldF.form {B : Nat} {w : World} {y : Value} {k : Int} {b : Bool} {n : Dec} {s : List UInt8} {ks : List (List UInt8)} {vs : List Val} (h : HoldF B w y ⟨k, b, n, s, ks, vs⟩) : ∃ pk ck a c, y = .agg #[.int .i64 k, .bool b, .bool n.neg, .string (txt n.dig), .int .i64 n.exp, .string (txt s), .slice pk ks.length ck, .slice a vs.length c] ∧
   HoldP (B ≤ ·) w [.int .i64 k, .bool b, .bool n.neg, .string (txt n.dig), .int .i64 n.exp, .string (txt s), .slice pk ks.length ck, .slice a vs.length c] ⟨k, b, n, s, ks, vs⟩ := by
 obtain ⟨cs, rfl, hc⟩ := h
 have hc2 := hc
 rw [HoldP] at hc2
 obtain ⟨uk, a, c, rfl, ⟨pk, ck, rfl, -⟩, -⟩ := hc2
 exact ⟨pk, ck, a, c, rfl, hc⟩
theorem RowC.slice {N : Option Nat} {B : Nat} {w : World} {u : Value} {vs : List Val} {cs : List (List Value)} (h : RowC N B w u vs cs) : ∃ a c, u = .slice a vs.length c := by
 obtain ⟨a, c, hu, _⟩ := h.holds
 exact ⟨a, c, hu⟩
set_option maxRecDepth 100000 in
set_option maxHeartbeats 8000000 in
theorem rsort_list {v : Val} (h6 : v.kind ≠ 6) (ih : ∀ x ∈ v.kids, ∀ (w : World) (u : Value), HoldV w u x → Calls Tryz.prog 50 #[u] w fun e w' => (∃ y, e = .returned y ∧ HoldF w.heap.size w' y (sort x)) ∧ Below w.heap.size w w')
   (hn : v.kids.length < 1000000) {w : World} {u : Value} (h : HoldV w u v) : Calls Tryz.prog 50 #[u] w fun e w' => (∃ y, e = .returned y ∧ HoldF w.heap.size w' y (sort v)) ∧ Below w.heap.size w w' := by
 obtain ⟨k, b, n, s, ks, vs⟩ := v
 unfold Val.kind at h6
 unfold Val.kids at ih hn
 dsimp only at h6 ih hn
 have hso : sort ⟨k, b, n, s, ks, vs⟩ = ⟨k, b, n, s, [], sorts vs⟩ := by rw [sort, if_neg h6]
 rw [hso]
 clear hso
 obtain ⟨cs, rfl, hc⟩ := h
 rw [Hold] at hc
 obtain ⟨uk, a, c, rfl, hk, hcap, hmax, hv⟩ := hc
 show Calls Tryz.prog 50 #[.agg #[.int .i64 k, .bool b, .bool n.neg, .string (txt n.dig), .int .i64 n.exp, .string (txt s), uk, .slice a vs.length c]] w _
 have h6' : (k != 6) = true := by simpa using h6
 clear h6 hk
 have hE := World.alloc_heap_new w (.cells #[.int .i64 k, .bool b, .bool n.neg, .string (txt n.dig), .int .i64 n.exp, .string (txt s), uk, .slice a vs.length c] 29)
 obtain ⟨w1, hw1⟩ : ∃ w1, ((w.alloc (.cells #[.int .i64 k, .bool b, .bool n.neg, .string (txt n.dig), .int .i64 n.exp, .string (txt s), uk, .slice a vs.length c] 29)).alloc (.cells #[.int .i64 0, .bool false, .bool false, .string ⟨#[]⟩, .int .i64 0, .string ⟨#[]⟩, .slice none 0 0, .slice none 0 0] 29)).alloc (.cells #[.int .i64 k, .bool b, .bool n.neg, .string (txt n.dig), .int .i64 n.exp, .string (txt s), .slice none 0 0, .slice none 0 0] 29) = w1 := ⟨_, rfl⟩
 have hz1 : w1.heap.size = w.heap.size + 3 := by rw [← hw1]; simp
 have hA1 : w1.heap[w.heap.size]? = some (.cells #[.int .i64 k, .bool b, .bool n.neg, .string (txt n.dig), .int .i64 n.exp, .string (txt s), uk, .slice a vs.length c] 29 (0, 0)) := by rw [← hw1]; exact new_of (new_of hE _) _
 have hZ1 : w1.heap[w.heap.size + 1]? = some (.cells #[.int .i64 0, .bool false, .bool false, .string ⟨#[]⟩, .int .i64 0, .string ⟨#[]⟩, .slice none 0 0, .slice none 0 0] 29 (0, 0)) := by
   rw [← hw1]
   refine new_of ?_ _
   have := World.alloc_heap_new (w.alloc (.cells #[.int .i64 k, .bool b, .bool n.neg, .string (txt n.dig), .int .i64 n.exp, .string (txt s), uk, .slice a vs.length c] 29)) (.cells #[.int .i64 0, .bool false, .bool false, .string ⟨#[]⟩, .int .i64 0, .string ⟨#[]⟩, .slice none 0 0, .slice none 0 0] 29)
   rwa [World.size_alloc] at this
 have hO1 : w1.heap[w.heap.size + 1 + 1]? = some (.cells #[.int .i64 k, .bool b, .bool n.neg, .string (txt n.dig), .int .i64 n.exp, .string (txt s), .slice none 0 0, .slice none 0 0] 29 (0, 0)) := by
   rw [← hw1]
   have := World.alloc_heap_new ((w.alloc (.cells #[.int .i64 k, .bool b, .bool n.neg, .string (txt n.dig), .int .i64 n.exp, .string (txt s), uk, .slice a vs.length c] 29)).alloc (.cells #[.int .i64 0, .bool false, .bool false, .string ⟨#[]⟩, .int .i64 0, .string ⟨#[]⟩, .slice none 0 0, .slice none 0 0] 29)) (.cells #[.int .i64 k, .bool b, .bool n.neg, .string (txt n.dig), .int .i64 n.exp, .string (txt s), .slice none 0 0, .slice none 0 0] 29)
   rwa [World.size_alloc, World.size_alloc] at this
 have b1 : Below w.heap.size w w1 := by rw [← hw1]; exact (((Below.refl _ w).alloc (Nat.le_refl _) _).alloc (by simp) _).alloc (by simp; omega) _
 have HW := Lib.hid hw1
 clear hw1 hE
 go_enter Tryz.func50, Tryz.ntmps50
 go_wp2_with fail
 rw [HW.out]
 go_loopw [4] (fun y wr => ∃ (j : Nat) (uo : Value) (co : List (List Value)), j ≤ vs.length ∧ y = .int .i64 (j : Int) ∧ RowC none (w.heap.size + 3) wr uo ((sorts vs).take j) co ∧
     wr.heap[w.heap.size]? = some (.cells #[.int .i64 k, .bool b, .bool n.neg, .string (txt n.dig), .int .i64 n.exp, .string (txt s), uk, .slice a vs.length c] 29 (0, 0)) ∧
     wr.heap[w.heap.size + 1]? = some (.cells #[.int .i64 0, .bool false, .bool false, .string ⟨#[]⟩, .int .i64 0, .string ⟨#[]⟩, .slice none 0 0, .slice none 0 0] 29 (0, 0)) ∧
     wr.heap[w.heap.size + 1 + 1]? = some (.cells #[.int .i64 k, .bool b, .bool n.neg, .string (txt n.dig), .int .i64 n.exp, .string (txt s), .slice none 0 0, uo] 29 (0, 0)) ∧ Below w.heap.size w wr ∧ w.heap.size + 3 ≤ wr.heap.size) (fun y _ => vs.length - (intOf y).toNat)
 case atStart => exact ⟨0, _, [], Nat.zero_le _, rfl, by rw [List.take_zero]; exact RowC.nil _ _ _, hA1, hZ1, hO1, b1, by omega⟩
 case round =>
   clear hA1 hZ1 hO1 b1 hz1 HW
   obtain ⟨j, uo, co, hj, rfl, hR, hA, hZ, hO, bB, hz⟩ := hrel
   have hRs := hR.slice
   obtain ⟨ao, cpo, rfl⟩ := hRs
   have htl : ((sorts vs).take j).length = j := by rw [List.length_take, sorts_len]; omega
   rw [htl] at hO hR
   obtain ⟨-, -, -, -, -, -, -, p7⟩ := eight hA
   obtain ⟨-, -, -, -, -, -, -, q7⟩ := eight hO
   have f7 := free_of hO 7
   by_cases hlt : j < vs.length
   · have hlt' : (j : Int) < (vs.length : Int) := by omega
     rcases hv with rfl | ⟨g, off, rfl, hg, hx⟩
     · exact absurd hlt (Nat.not_lt_zero _)
     obtain ⟨cx, hx8, hxx⟩ := Holds.at hx (List.getElem?_eq_getElem hlt)
     have hcall := ih vs[j] (List.getElem_mem hlt)
     have hsj : (sorts vs).take (j + 1) = (sorts vs).take j ++ [sort vs[j]] := by
       rw [sorts_map, List.take_succ_eq_append_getElem (by rw [List.length_map]; exact hlt), List.getElem_map]
     generalize vs[j] = x at *
     have hx8' := hx8.below hg bB
     have hxx' := Hold.below bB x hxx
     clear hx8 hxx
     obtain ⟨k', b', n', s', ks', vs'⟩ := x
     have hh2 := hxx'
     rw [Hold] at hh2
     obtain ⟨uk', a', c', rfl, -, -, -, -⟩ := hh2
     obtain ⟨d0, d1, d2, d3, d4, d5, d6, d7⟩ := hx8'.cells
     have hcall' := hcall wr.drew (.agg #[.int .i64 k', .bool b', .bool n'.neg, .string (txt n'.dig), .int .i64 n'.exp, .string (txt s'), uk', .slice a' vs'.length c']) ⟨_, rfl, Hold.below (drew_below wr) _ hxx'⟩
     generalize sort ⟨k', b', n', s', ks', vs'⟩ = z at *
     obtain ⟨zk, zb, zn, zs, zks, zvs⟩ := z
     have wk : IntKind.i64.wrap ((j : Int) + 1) = (j : Int) + 1 := by simp only [IntKind.wrap, IntKind.signed, IntKind.bits]; simp; omega
     have hgl := Nat.lt_of_lt_of_le hg bB.size
     have hal := lt_of_heap hA
     have hol := lt_of_heap hO
     have HS := Lib.hid hsj
     clear hsj hxx' hx8' hcall ih hx
     go_wp2_with fail
     go_region_law
       (first | (refine step_push (by rfl) _ _ (by rfl) (w.heap.size + 3) wr.heap.size htl (by rfl) (by rfl) (new8 wx _ rfl) ((hR.below bx).below ((Below.refl _ wx).alloc (Nat.le_refl _) _)) (HoldP.keep (by simp) (fun g _ hlt => Below.heap_alloc _ _ _ hlt) _ hcy) hz (fun g e => (hR.own_lt g e).2) (fun g e => by cases e) (by omega) (by have := bx.size; simp; omega) ?_; intro g4 cap4 w4 hR4 hg4; have bX : Below (w.heap.size + 3) wr w4 := ((bx.mono hz).alloc (by have := bx.size; omega) _).grown hg4 (by have := bx.size; simp; omega) (fun k e => (hR.own_lt k e).1); have hO4 := (bX.block (w.heap.size + 1 + 1) (by omega)).trans hO; have f4 := free_of hO4 7; have n0 := (bX.cell (p := ⟨w.heap.size, 7, none⟩) (by dsimp only; omega)).trans p7; have n1 := (bX.cell (p := ⟨w.heap.size + 1 + 1, 7, none⟩) (by dsimp only; omega)).trans q7; have n2 := (bX.cell (p := ⟨g, off + j * 8, none⟩) (by dsimp only; omega)).trans d0; have n3 := (bX.cell (p := ⟨g, off + j * 8 + 1, none⟩) (by dsimp only; omega)).trans d1; have n4 := (bX.cell (p := ⟨g, off + j * 8 + 2, none⟩) (by dsimp only; omega)).trans d2; have n5 := (bX.cell (p := ⟨g, off + j * 8 + 3, none⟩) (by dsimp only; omega)).trans d3; have n6 := (bX.cell (p := ⟨g, off + j * 8 + 4, none⟩) (by dsimp only; omega)).trans d4; have n7 := (bX.cell (p := ⟨g, off + j * 8 + 5, none⟩) (by dsimp only; omega)).trans d5; have n8 := (bX.cell (p := ⟨g, off + j * 8 + 6, none⟩) (by dsimp only; omega)).trans d6; have n9 := (bX.cell (p := ⟨g, off + j * 8 + 7, none⟩) (by dsimp only; omega)).trans d7) | (go_simp; go_at_call 50; refine hcall'.mono ?_; rintro e wx ⟨⟨y, rfl, hy⟩, kx⟩; obtain ⟨pk3, ck3, a3, c3, rfl, hcy⟩ := hy.form; have bx : Below wr.heap.size wr wx := (drew_below wr).trans kx; have y0 : w.heap.size < wx.heap.size := (by have := bx.size; omega); have y1 : w.heap.size + 1 + 1 < wx.heap.size := (by have := bx.size; omega); have y2 : g < wx.heap.size := (by have := bx.size; omega); have m0 := (bx.cell (World.block_lt_of_cell? _ _ p7)).trans p7; have m1 := (bx.cell (World.block_lt_of_cell? _ _ q7)).trans q7; have m2 := (bx.cell (World.block_lt_of_cell? _ _ d0)).trans d0; have m3 := (bx.cell (World.block_lt_of_cell? _ _ d1)).trans d1; have m4 := (bx.cell (World.block_lt_of_cell? _ _ d2)).trans d2; have m5 := (bx.cell (World.block_lt_of_cell? _ _ d3)).trans d3; have m6 := (bx.cell (World.block_lt_of_cell? _ _ d4)).trans d4; have m7 := (bx.cell (World.block_lt_of_cell? _ _ d5)).trans d5; have m8 := (bx.cell (World.block_lt_of_cell? _ _ d6)).trans d6; have m9 := (bx.cell (World.block_lt_of_cell? _ _ d7)).trans d7))
     all_goals
       go_wp2_with fail
       go_roundw
       case rel => exact ⟨j + 1, _, _, by omega, by go_num, by rw [HS.out]; exact hR4.other (grown_cell _ _ _ _) (by omega), set_other ((bX.block w.heap.size (by omega)).trans hA) (by omega) _, set_other ((bX.block (w.heap.size + 1) (by omega)).trans hZ) (by omega) _, set_of hO4 7 _, (bB.trans (bX.mono (by omega))).setCell (p := ⟨w.heap.size + 1 + 1, 7, none⟩) (by dsimp only; omega) _, by have := bX.size; simp; omega⟩
       case measure => simp [intOf]; omega
   · obtain rfl : j = vs.length := by omega
     have hd : decide (vs.length < vs.length) = false := by simp
     rw [List.take_of_length_le (by rw [sorts_len]; exact Nat.le_refl _)] at hR
     obtain ⟨o0, o1, o2, o3, o4, o5, o6, -⟩ := eight hO
     clear p7
     obtain ⟨-, -, -, -, -, -, -, p7⟩ := eight hA
     have fZ := fun i => free_of hZ i
     have fz0 := fZ 0
     have fz1 := fZ 1
     have fz2 := fZ 2
     have fz3 := fZ 3
     have fz4 := fZ 4
     have fz5 := fZ 5
     have fz6 := fZ 6
     have fz7 := fZ 7
     obtain ⟨z0, z1, z2, z3, z4, z5, z6, z7⟩ := eight hZ
     have hfin := store8 hZ (.int .i64 k) (.bool b) (.bool n.neg) (.string (txt n.dig)) (.int .i64 n.exp) (.string (txt s)) (.slice none 0 0) (.slice ao vs.length cpo)
     have hgr := grown8 wr (w.heap.size + 1) (.int .i64 k) (.bool b) (.bool n.neg) (.string (txt n.dig)) (.int .i64 n.exp) (.string (txt s)) (.slice none 0 0) (.slice ao vs.length cpo)
     have hbl := below_set8 bB (g := w.heap.size + 1) (by omega) (.int .i64 k) (.bool b) (.bool n.neg) (.string (txt n.dig)) (.int .i64 n.exp) (.string (txt s)) (.slice none 0 0) (.slice ao vs.length cpo)
     have HF := Lib.hid hfin
     have HG := Lib.hid hgr
     have HB := Lib.hid hbl
     clear hfin hgr hbl
     go_wp2_with fail
     have hfin := HF.out
     have hgr := HG.out
     have hbl := HB.out
     clear HF HG HB fz0 fz1 fz2 fz3 fz4 fz5 fz6 fz7 z0 z1 z2 z3 z4 z5 z6 z7 fZ
     generalize ((((((((wr.setCell ⟨w.heap.size + 1, 0, none⟩ (.int .i64 k)).setCell ⟨w.heap.size + 1, 1, none⟩ (.bool b)).setCell ⟨w.heap.size + 1, 2, none⟩ (.bool n.neg)).setCell ⟨w.heap.size + 1, 3, none⟩ (.string (txt n.dig))).setCell ⟨w.heap.size + 1, 4, none⟩ (.int .i64 n.exp)).setCell ⟨w.heap.size + 1, 5, none⟩ (.string (txt s))).setCell ⟨w.heap.size + 1, 6, none⟩ (.slice none 0 0)).setCell ⟨w.heap.size + 1, 7, none⟩ (.slice ao vs.length cpo)) = wf at *
     obtain ⟨z0, z1, z2, z3, z4, z5, z6, z7⟩ := eight hfin
     refine bodyPost_ret (v := .agg #[.int .i64 k, .bool b, .bool n.neg, .string (txt n.dig), .int .i64 n.exp, .string (txt s), .slice none 0 0, .slice ao vs.length cpo]) (by simp [results, Tryz.results50, go_sem, z0, z1, z2, z3, z4, z5, z6, z7]) rfl ⟨⟨_, rfl, _, rfl, ?_⟩, hbl⟩
     have hR2 := (hR.other hgr (by omega)).holds
     rw [sorts_len] at hR2
     obtain ⟨a5, c5, e5, h51, h52, h53⟩ := hR2
     rw [e5]
     rw [HoldP, sorts_len]
     refine ⟨.slice none 0 0, a5, c5, rfl, ⟨none, 0, rfl, Nat.le_refl _, by omega, .inl rfl⟩, h51, h52, ?_⟩
     rcases h53 with h | ⟨g5, o5, e6, h54, h55, h56⟩
     · exact .inl h
     · exact .inr ⟨g5, o5, e6, by omega, h55, HoldsP.mono (fun g h _ => by omega) _ h56⟩
end Go.Proofs.YtlfbnfphocpgeaaGreatDoor.Tre
namespace Go.Proofs.YtlfbnfphocpgeaaGreatDoor.Tre
open Go.RowKit Kit Txt
open Num (Dec zero)
def Gone (w : World) (g n : Nat) (I : List Nat) : Prop := ∃ arr : Array Value, w.heap[g]? = some (.cells arr 3 (0, 0)) ∧ arr.size = n ∧ ∀ i, i < n → arr[i]? = some (.int .i64 (if i ∈ I then 1 else 0))
theorem Gone.keep {w w' : World} {g n : Nat} {I : List Nat} (h : Gone w g n I) (k : w'.heap[g]? = w.heap[g]?) : Gone w' g n I := by
 obtain ⟨arr, h1, h2, h3⟩ := h
 exact ⟨arr, k.trans h1, h2, h3⟩
theorem Gone.new (w : World) (n : Nat) : Gone (w.alloc (.cells (madeCells #[.int .i64 0] n) 3)) w.heap.size n [] := by
 refine ⟨_, World.alloc_heap_new w _, size_madeCells _ _, fun i hi => ?_⟩
 rw [Array.getElem?_eq_getElem (by rw [size_madeCells]; exact hi)]
 simp [madeCells, Nat.mod_one]
theorem Gone.lt {w : World} {g n : Nat} {I : List Nat} (h : Gone w g n I) : g < w.heap.size := by
 obtain ⟨arr, h1, _⟩ := h
 exact lt_of_heap h1
theorem Gone.cell {w : World} {g n i : Nat} {I : List Nat} (h : Gone w g n I) (hi : i < n) : w.cell? ⟨g, i, none⟩ = some (.int .i64 (if i ∈ I then 1 else 0)) := by
 obtain ⟨arr, h1, h2, h3⟩ := h
 rw [cell_of h1, h3 i hi]
theorem Gone.free {w : World} {g n : Nat} {I : List Nat} (h : Gone w g n I) (i : Nat) : w.frozen? ⟨g, i, none⟩ = false := by
 obtain ⟨arr, h1, _⟩ := h
 exact free_of h1 i
theorem Gone.store {w : World} {g n m : Nat} {I : List Nat} (h : Gone w g n I) (hm : m < n) : Gone (w.setCell ⟨g, m, none⟩ (.int .i64 1)) g n (I ++ [m]) := by
 obtain ⟨arr, h1, h2, h3⟩ := h
 refine ⟨_, set_of h1 m _, by rw [Array.size_setIfInBounds, h2], fun i hi => ?_⟩
 by_cases e : i = m
 · subst e
   rw [Array.getElem?_setIfInBounds_self_of_lt (by omega)]
   simp
 · rw [Array.getElem?_setIfInBounds_ne (fun h => e h.symm), h3 i hi]
   simp [e]
theorem infoInt : (Tryz.prog.info? 3).map (fun i => (i.zero, i.size, i.bytes)) = some (some (.int .i64 0), 1, 8) := by kernel_rfl
theorem txt_toList (l : List UInt8) : (txt l).toList = l := by unfold txt; rw [ByteArray.toList_mk]
theorem new1 (w : World) (v : Value) (t : TypeId) : (w.alloc (.cells #[v] t)).cell? ⟨w.heap.size, 0, none⟩ = some v := cell_of (World.alloc_heap_new w _) 0
theorem RowT.slice {B : Nat} {w : World} {u : Value} {ls : List (List UInt8)} (h : RowT B w u ls) : ∃ a c, u = .slice a ls.length c := by
 obtain ⟨a, c, hu, _⟩ := h.holds
 exact ⟨a, c, hu⟩
theorem RowT.own_lt {B : Nat} {w : World} {u : Value} {ls : List (List UInt8)} (h : RowT B w u ls) : ∀ g, u.ownBlock = some g → B ≤ g ∧ g < w.heap.size := by
 intro g hg
 rcases h.2 with ⟨rfl, _⟩ | ⟨g', cap, cur, rfl, hg', hb, _⟩
 · cases hg
 · have e : g' = g := by simpa [Value.ownBlock] using hg
   subst e
   exact ⟨hg', lt_of_heap hb⟩
theorem own_diff {B : Nat} {w : World} {u1 u2 : Value} {M : Option Nat} {ls : List (List UInt8)} {vs : List Val} {cs : List (List Value)} (h1 : RowT B w u1 ls) (h2 : RowC M B w u2 vs cs) : ∀ g, u2.ownBlock = some g → u1.ownBlock ≠ some g := by
 intro g e2 e1
 rcases h1.2 with ⟨rfl, _⟩ | ⟨g1, c1, k1, rfl, _, hb1, _⟩
 · cases e1
 · rcases h2.2.1.2 with ⟨rfl, _⟩ | ⟨g2, c2, k2, rfl, _, hb2, _⟩
   · cases e2
   · have a1 : g1 = g := by simpa [Value.ownBlock] using e1
     have a2 : g2 = g := by simpa [Value.ownBlock] using e2
     subst a1; subst a2
     rw [hb1] at hb2
     injection hb2 with hb2
     injection hb2 with _ ht _
     exact absurd ht (by decide)
theorem RowT.apart {B : Nat} {w w' : World} {u1 u2 : Value} {M : Option Nat} {ls : List (List UInt8)} {vs : List Val} {cs : List (List Value)} (h1 : RowT B w u1 ls) (h2 : RowC M B w u2 vs cs) (b : w.grownBy w' u2.ownBlock) : RowT B w' u1 ls := by
 refine World.ownsRow.kept h1 b ?_
 cases e : u1.ownBlock with
 | none => exact .inl rfl
 | some g => exact .inr fun h => own_diff h1 h2 g h.symm e
set_option maxRecDepth 100000 in
set_option maxHeartbeats 16000000 in
theorem rsort_obj {v : Val} (h6 : v.kind = 6) (hl : v.keys.length = v.kids.length) (hnd : v.keys.Nodup) (ih : ∀ x ∈ v.kids, ∀ (w : World) (u : Value), HoldV w u x → Calls Tryz.prog 50 #[u] w fun e w' => (∃ y, e = .returned y ∧ HoldF w.heap.size w' y (sort x)) ∧ Below w.heap.size w w')
   (hn : v.kids.length < 1000000) {w : World} {u : Value} (h : HoldV w u v) : Calls Tryz.prog 50 #[u] w fun e w' => (∃ y, e = .returned y ∧ HoldF w.heap.size w' y (sort v)) ∧ Below w.heap.size w w' := by
 obtain ⟨k, b, n, s, ks, vs⟩ := v
 unfold Val.kind at h6
 unfold Val.kids at ih hn hl
 unfold Val.keys at hl hnd
 dsimp only at h6 ih hn hl hnd
 subst h6
 have hso : sort ⟨6, b, n, s, ks, vs⟩ = ⟨6, b, n, s, (rows ks vs).map (·.1), (rows ks vs).map (·.2)⟩ := by rw [sort_eq]; rfl
 rw [hso]
 clear hso
 obtain ⟨cs, rfl, hc⟩ := h
 rw [Hold] at hc
 obtain ⟨uk, a, c, rfl, hk, hcap, hmax, hv⟩ := hc
 obtain ⟨pk, ck, rfl, hck, hmk, hxk⟩ := hk
 show Calls Tryz.prog 50 #[.agg #[.int .i64 6, .bool b, .bool n.neg, .string (txt n.dig), .int .i64 n.exp, .string (txt s), .slice pk ks.length ck, .slice a vs.length c]] w _
 have hE := World.alloc_heap_new w (.cells #[.int .i64 6, .bool b, .bool n.neg, .string (txt n.dig), .int .i64 n.exp, .string (txt s), .slice pk ks.length ck, .slice a vs.length c] 29)
 obtain ⟨w1, hw1⟩ : ∃ w1, ((w.alloc (.cells #[.int .i64 6, .bool b, .bool n.neg, .string (txt n.dig), .int .i64 n.exp, .string (txt s), .slice pk ks.length ck, .slice a vs.length c] 29)).alloc (.cells #[.int .i64 0, .bool false, .bool false, .string ⟨#[]⟩, .int .i64 0, .string ⟨#[]⟩, .slice none 0 0, .slice none 0 0] 29)).alloc (.cells #[.int .i64 6, .bool b, .bool n.neg, .string (txt n.dig), .int .i64 n.exp, .string (txt s), .slice none 0 0, .slice none 0 0] 29) = w1 := ⟨_, rfl⟩
 have hz1 : w1.heap.size = w.heap.size + 3 := by rw [← hw1]; simp
 have hA1 : w1.heap[w.heap.size]? = some (.cells #[.int .i64 6, .bool b, .bool n.neg, .string (txt n.dig), .int .i64 n.exp, .string (txt s), .slice pk ks.length ck, .slice a vs.length c] 29 (0, 0)) := by rw [← hw1]; exact new_of (new_of hE _) _
 have hZ1 : w1.heap[w.heap.size + 1]? = some (.cells #[.int .i64 0, .bool false, .bool false, .string ⟨#[]⟩, .int .i64 0, .string ⟨#[]⟩, .slice none 0 0, .slice none 0 0] 29 (0, 0)) := by
   rw [← hw1]
   refine new_of ?_ _
   have := World.alloc_heap_new (w.alloc (.cells #[.int .i64 6, .bool b, .bool n.neg, .string (txt n.dig), .int .i64 n.exp, .string (txt s), .slice pk ks.length ck, .slice a vs.length c] 29)) (.cells #[.int .i64 0, .bool false, .bool false, .string ⟨#[]⟩, .int .i64 0, .string ⟨#[]⟩, .slice none 0 0, .slice none 0 0] 29)
   rwa [World.size_alloc] at this
 have hO1 : w1.heap[w.heap.size + 1 + 1]? = some (.cells #[.int .i64 6, .bool b, .bool n.neg, .string (txt n.dig), .int .i64 n.exp, .string (txt s), .slice none 0 0, .slice none 0 0] 29 (0, 0)) := by
   rw [← hw1]
   have := World.alloc_heap_new ((w.alloc (.cells #[.int .i64 6, .bool b, .bool n.neg, .string (txt n.dig), .int .i64 n.exp, .string (txt s), .slice pk ks.length ck, .slice a vs.length c] 29)).alloc (.cells #[.int .i64 0, .bool false, .bool false, .string ⟨#[]⟩, .int .i64 0, .string ⟨#[]⟩, .slice none 0 0, .slice none 0 0] 29)) (.cells #[.int .i64 6, .bool b, .bool n.neg, .string (txt n.dig), .int .i64 n.exp, .string (txt s), .slice none 0 0, .slice none 0 0] 29)
   rwa [World.size_alloc, World.size_alloc] at this
 have b1 : Below w.heap.size w w1 := by rw [← hw1]; exact (((Below.refl _ w).alloc (Nat.le_refl _) _).alloc (by simp) _).alloc (by simp; omega) _
 have HW := Lib.hid hw1
 have HL := Lib.hid hl
 have HND := Lib.hid hnd
 have hnk : ks.length < 1000000 := by omega
 have hmk := fun wx => run_make_row' (P := Tryz.prog) 108 3 (.int .i64 0) 8 Tryz.underlying108 infoInt rfl .i64 .i64 ks.length (by omega) (by omega) wx
 have hN2 : w1.alloc (.cells (madeCells #[.int .i64 0] ks.length) 3) = w1.alloc (.cells (madeCells #[.int .i64 0] ks.length) 3) := rfl
 clear hw1 hE hl hnd hN2
 go_enter Tryz.func50, Tryz.ntmps50
 go_wp2_with fail
 rw [HW.out]
 obtain ⟨w2, hw2⟩ : ∃ w2, w1.alloc (.cells (madeCells #[.int .i64 0] ks.length) 3) = w2 := ⟨_, rfl⟩
 have hz2 : w2.heap.size = w.heap.size + 4 := by rw [← hw2]; simp; omega
 have hGn := Gone.new w1 ks.length
 rw [hz1, hw2] at hGn
 have hA2 : w2.heap[w.heap.size]? = some (.cells #[.int .i64 6, .bool b, .bool n.neg, .string (txt n.dig), .int .i64 n.exp, .string (txt s), .slice pk ks.length ck, .slice a vs.length c] 29 (0, 0)) := by rw [← hw2]; exact new_of hA1 _
 have hZ2 : w2.heap[w.heap.size + 1]? = some (.cells #[.int .i64 0, .bool false, .bool false, .string ⟨#[]⟩, .int .i64 0, .string ⟨#[]⟩, .slice none 0 0, .slice none 0 0] 29 (0, 0)) := by rw [← hw2]; exact new_of hZ1 _
 have hO2 : w2.heap[w.heap.size + 1 + 1]? = some (.cells #[.int .i64 6, .bool b, .bool n.neg, .string (txt n.dig), .int .i64 n.exp, .string (txt s), .slice none 0 0, .slice none 0 0] 29 (0, 0)) := by rw [← hw2]; exact new_of hO1 _
 have b2 : Below w.heap.size w w2 := by rw [← hw2]; exact b1.alloc (by omega) _
 rw [hw2]
 have hGn2 : Gone w2 (w.heap.size + 1 + 1 + 1) ks.length [] := hGn
 have hz2' : w.heap.size + 4 ≤ w2.heap.size := by omega
 clear hw2 hA1 hZ1 hO1 b1 hz1 hGn HW hmk hz2
 go_loopw [46] (fun y wr => ∃ (t : Nat) (I : List Nat) (u6 u7 : Value) (co : List (List Value)), t ≤ ks.length ∧ y = .int .i64 (t : Int) ∧ I.length = t ∧ Picked ks I ∧ Gone wr (w.heap.size + 1 + 1 + 1) ks.length I ∧ RowT (w.heap.size + 4) wr u6 (I.map (kat ks)) ∧ RowC u6.ownBlock (w.heap.size + 4) wr u7 (I.map fun i => (sorts vs).getD i none') co ∧
     wr.heap[w.heap.size]? = some (.cells #[.int .i64 6, .bool b, .bool n.neg, .string (txt n.dig), .int .i64 n.exp, .string (txt s), .slice pk ks.length ck, .slice a vs.length c] 29 (0, 0)) ∧ wr.heap[w.heap.size + 1]? = some (.cells #[.int .i64 0, .bool false, .bool false, .string ⟨#[]⟩, .int .i64 0, .string ⟨#[]⟩, .slice none 0 0, .slice none 0 0] 29 (0, 0)) ∧ wr.heap[w.heap.size + 1 + 1]? = some (.cells #[.int .i64 6, .bool b, .bool n.neg, .string (txt n.dig), .int .i64 n.exp, .string (txt s), u6, u7] 29 (0, 0)) ∧ Below w.heap.size w wr ∧ w.heap.size + 4 ≤ wr.heap.size) (fun y _ => ks.length - (intOf y).toNat)
 case atStart => exact ⟨0, [], _, _, [], Nat.zero_le _, rfl, rfl, .nil ks, hGn2, RowT.nil _ _, RowC.nil _ _ _, hA2, hZ2, hO2, b2, hz2'⟩
 case round =>
   clear hA2 hZ2 hO2 b2 hGn2 hz2'
   obtain ⟨t, I, u6, u7, co, ht, rfl, hIl, hI, hG, hT, hR, hA, hZ, hO, bB, hz⟩ := hrel
   obtain ⟨wo, hwo⟩ : ∃ wo : World, wo = wr := ⟨wr, rfl⟩
   subst hwo
   have HI := Lib.hid hI
   have HIl := Lib.hid hIl
   clear hI hIl
   obtain ⟨-, -, -, -, -, -, p6, p7⟩ := eight hA
   by_cases hlt : t < ks.length
   · have hlt' : (t : Int) < (ks.length : Int) := by omega
     have hvl := HL.out
     rcases hv with rfl | ⟨g, off, rfl, hg, hx⟩
     · exact absurd hlt (by rw [hvl]; exact Nat.not_lt_zero _)
     rcases hxk with rfl | ⟨gk, offk, rfl, hgk, hxk⟩
     · exact absurd hlt (Nat.not_lt_zero _)
     clear hvl
     have wt : IntKind.i64.wrap ((t : Int) + 1) = (t : Int) + 1 := by simp only [IntKind.wrap, IntKind.signed, IntKind.bits]; simp; omega
     go_wp2_with fail
     go_loopw [6, 7] (fun bb z wq => ∃ (i : Nat) (best : Int), i ≤ ks.length ∧ bb = .int .i64 best ∧ z = .int .i64 (i : Int) ∧ Best ks I i best ∧ Below wo.heap.size wo wq) (fun _ z _ => ks.length - (intOf z).toNat)
     case atStart => exact ⟨0, -1, Nat.zero_le _, rfl, rfl, .nil ks I, Below.refl _ _⟩
     case round =>
       obtain ⟨i, best, hi, rfl, rfl, hB, bq⟩ := hrel
       have HB := Lib.hid hB
       clear hB
       have hAq := (bq.block _ (lt_of_heap hA)).trans hA
       have hGq := hG.keep (bq.block _ hG.lt)
       clear p6 p7
       obtain ⟨-, -, -, -, -, -, p6, p7⟩ := eight hAq
       by_cases hil : i < ks.length
       · have hil' : (i : Int) < (ks.length : Int) := by omega
         have wi : IntKind.i64.wrap ((i : Int) + 1) = (i : Int) + 1 := by simp only [IntKind.wrap, IntKind.signed, IntKind.bits]; simp; omega
         have hgc := hGq.cell hil
         have bkq := bB.trans (bq.mono bB.size)
         have key : ∀ m, m < ks.length → wr.cell? ⟨gk, offk + m, none⟩ = some (.string (txt (kat ks m))) := fun m hm => (bkq.cell (p := ⟨gk, offk + m, none⟩) hgk).trans (hxk m (kat ks m) (by unfold kat; rw [List.getD_eq_getElem?_getD, List.getElem?_eq_getElem hm]; rfl))
         have hki := key i hil
         by_cases hin : i ∈ I
         · rw [if_pos hin] at hgc
           have HX := Lib.hid (HB.out.gone hin)
           clear hin key
           go_wp2_with fail
           go_quiet (fail)
           go_wp2_with fail
           go_roundw
           case rel => exact ⟨i + 1, best, by omega, rfl, by go_num, HX.out, below_drewN bq _⟩
           case measure => simp [intOf]; omega
         · rw [if_neg hin] at hgc
           rcases HB.out with ⟨hbn, -⟩ | ⟨m, hbm, hmi, -, -⟩
           · have HX := Lib.hid (HB.out.first (by omega) hin)
             clear HB
             subst hbn
             clear hin key
             go_wp2_with fail
             go_quiet (fail)
             go_wp2_with fail
             go_roundw
             case rel => exact ⟨i + 1, _, by omega, rfl, by go_num, HX.out, below_drewN bq _⟩
             case measure => simp [intOf]; omega
           · have hml : m < ks.length := by omega
             have hml' : (m : Int) < (ks.length : Int) := by omega
             have hkm := key m hml
             have hd0 : decide ((m : Int) < 0) = false := by simp
             subst hbm
             clear key
             by_cases hls : less (kat ks i) (kat ks m) = true
             · have HX := Lib.hid (HB.out.better hin hls)
               have hl2 : Op.bytesLess (txt (kat ks i)).toList (txt (kat ks m)).toList = true := by rw [txt_toList, txt_toList]; exact hls
               clear hin hls HB
               generalize kat ks i = pi at hki hl2
               generalize kat ks m = pm at hkm hl2
               go_wp2_with fail
               go_quiet (fail)
               go_wp2_with fail
               go_roundw
               case rel => exact ⟨i + 1, _, by omega, rfl, by go_num, HX.out, below_drewN bq _⟩
               case measure => simp [intOf]; omega
             · have hls' : less (kat ks i) (kat ks m) = false := by simpa using hls
               have HX := Lib.hid (HB.out.more HND.out hil hls')
               have hl2 : Op.bytesLess (txt (kat ks i)).toList (txt (kat ks m)).toList = false := by rw [txt_toList, txt_toList]; exact hls'
               clear hin hls hls' HB
               generalize kat ks i = pi at hki hl2
               generalize kat ks m = pm at hkm hl2
               go_wp2_with fail
               go_quiet (fail)
               go_wp2_with fail
               go_roundw
               case rel => exact ⟨i + 1, _, by omega, rfl, by go_num, HX.out, below_drewN bq _⟩
               case measure => simp [intOf]; omega
       · obtain rfl : i = ks.length := by omega
         have hd : decide (ks.length < ks.length) = false := by simp
         obtain ⟨m, rfl, hml, hmI, hmb⟩ := HB.out.last (by rw [HIl.out]; exact hlt)
         have HM := Lib.hid (HI.out.push hml hmI hmb)
         clear HB hmb hmI
         have bw := bB.trans (bq.mono bB.size)
         have hzr := Nat.le_trans hz bq.size
         have hTr := hT.below bq
         have hRr := hR.below bq
         have hZr := (bq.block _ (lt_of_heap hZ)).trans hZ
         have hOr := (bq.block _ (lt_of_heap hO)).trans hO
         have hgcm := hGq.cell hml
         have hgfm := hGq.free m
         have hml' : (m : Int) < (ks.length : Int) := by omega
         clear hT hR hZ hO hA hG bq bB hz
         obtain ⟨wg, hwg⟩ : ∃ wg, wr.setCell ⟨w.heap.size + 1 + 1 + 1, m, none⟩ (.int .i64 1) = wg := ⟨_, rfl⟩
         have hgw := grown_cell wr (w.heap.size + 1 + 1 + 1) m (.int .i64 1)
         have hGs := hGq.store hml
         have hAs := set_other (i := m) (b := w.heap.size + 1 + 1 + 1) hAq (by omega) (.int .i64 1)
         have hZs := set_other (i := m) (b := w.heap.size + 1 + 1 + 1) hZr (by omega) (.int .i64 1)
         have hOs := set_other (i := m) (b := w.heap.size + 1 + 1 + 1) hOr (by omega) (.int .i64 1)
         have bws := bw.setCell (p := ⟨w.heap.size + 1 + 1 + 1, m, none⟩) (by dsimp only; omega) (.int .i64 1)
         have hTs := hTr.other hgw (by omega)
         have hRs := hRr.other hgw (by omega)
         have hzs : w.heap.size + 4 ≤ (wr.setCell ⟨w.heap.size + 1 + 1 + 1, m, none⟩ (.int .i64 1)).heap.size := by simp; omega
         rw [hwg] at hgw hGs hAs hZs hOs bws hTs hRs hzs
         have HWG := Lib.hid hwg
         have hkm := (bws.cell (p := ⟨gk, offk + m, none⟩) hgk).trans (hxk m (kat ks m) (by unfold kat; rw [List.getD_eq_getElem?_getD, List.getElem?_eq_getElem hml]; rfl))
         clear hgw hwg hTr hRr hZr hOr hAq
         go_upto_region 18 with fail
         rw [HWG.out]
         clear HWG hgcm hgfm p6 p7 hGq bw hzr
         obtain ⟨a6, c6, rfl⟩ := hTs.slice
         obtain ⟨a7, c7, rfl⟩ := hRs.slice
         have hil6 : (I.map (kat ks)).length = t := by rw [List.length_map, HIl.out]
         have hil7 : (I.map fun i => (sorts vs).getD i none').length = t := by rw [List.length_map, HIl.out]
         rw [hil6] at hTs hRs hOs
         rw [hil7] at hRs hOs
         go_cut [] from 81 to 90 (fun we => ∃ a6' c6', RowT (w.heap.size + 4) we (.slice (some a6') (t + 1) c6') (I.map (kat ks) ++ [kat ks m]) ∧ RowC (Value.slice (some a6') (t + 1) c6').ownBlock (w.heap.size + 4) we (.slice a7 t c7) (I.map fun i => (sorts vs).getD i none') co ∧ Gone we (w.heap.size + 1 + 1 + 1) ks.length (I ++ [m]) ∧
           we.heap[w.heap.size]? = some (.cells #[.int .i64 6, .bool b, .bool n.neg, .string (txt n.dig), .int .i64 n.exp, .string (txt s), .slice (some ⟨gk, offk, none⟩) ks.length ck, .slice (some ⟨g, off, none⟩) vs.length c] 29 (0, 0)) ∧ we.heap[w.heap.size + 1]? = some (.cells #[.int .i64 0, .bool false, .bool false, .string ⟨#[]⟩, .int .i64 0, .string ⟨#[]⟩, .slice none 0 0, .slice none 0 0] 29 (0, 0)) ∧ we.heap[w.heap.size + 1 + 1]? = some (.cells #[.int .i64 6, .bool b, .bool n.neg, .string (txt n.dig), .int .i64 n.exp, .string (txt s), (.slice (some a6') (t + 1) c6'), (.slice a7 t c7)] 29 (0, 0)) ∧ Below w.heap.size w we ∧ w.heap.size + 4 ≤ we.heap.size)
         case first =>
           obtain ⟨pm, hpm⟩ : ∃ pm, kat ks m = pm := ⟨_, rfl⟩
           rw [hpm] at hkm
           have HP := Lib.hid hpm
           obtain ⟨-, -, -, -, -, -, p6, -⟩ := eight hAs
           obtain ⟨-, -, -, -, -, -, q6, -⟩ := eight hOs
           have y0 : w.heap.size < wg.heap.size := by omega
           have y1 : w.heap.size + 1 + 1 < wg.heap.size := by omega
           have y2 : gk < wg.heap.size := by omega
           clear hpm
           go_region_law
             (first | (refine step_pushT (by rfl) _ _ (by rfl) (w.heap.size + 4) hil6 (by rfl) (by rfl) (new1 _ _ _) ((hTs.below (drew_below wg)).below ((Below.refl _ _).alloc (Nat.le_refl _) _)) (by omega) (by simp; omega) ?_; intro g4 cap4 w4 hT4 hg4 hn4; have bX : Below (w.heap.size + 4) wg w4 := (((drew_below wg).mono hzs).alloc (by simp; omega) _).grown hg4 (by simp; omega) (fun k e => (hTs.own_lt k e).1); have hO4 := (bX.block (w.heap.size + 1 + 1) (by omega)).trans hOs; have f4 := free_of hO4 6; have n0 := (bX.cell (p := ⟨w.heap.size, 6, none⟩) (by dsimp only; omega)).trans p6; have n1 := (bX.cell (p := ⟨w.heap.size + 1 + 1, 6, none⟩) (by dsimp only; omega)).trans q6; have n2 := (bX.cell (p := ⟨gk, offk + m, none⟩) (by dsimp only; omega)).trans hkm))
           all_goals
             go_wp2_with fail
             go_meet
             case rel => exact ⟨⟨g4, 0, none⟩, cap4, by rw [HP.out]; exact hT4.other (grown_cell _ _ _ _) (by omega), (RowC.renew ((hRs.below (drew_below wg)).below ((Below.refl _ _).alloc (Nat.le_refl _) _)) hg4 (own_diff hTs hRs) (fun g e => by cases e; exact hn4)).other (grown_cell _ _ _ _) (by omega), hGs.keep ((Below.heap_setCell w4 ⟨w.heap.size + 1 + 1, 6, none⟩ _ (w.heap.size + 1 + 1 + 1) (by dsimp only; omega)).trans (bX.block (w.heap.size + 1 + 1 + 1) (by omega))), set_other ((bX.block w.heap.size (by omega)).trans hAs) (by omega) _, set_other ((bX.block (w.heap.size + 1) (by omega)).trans hZs) (by omega) _, set_of hO4 6 _, (bws.trans (bX.mono (by omega))).setCell (p := ⟨w.heap.size + 1 + 1, 6, none⟩) (by dsimp only; omega) _, by have := bX.size; simp; omega⟩
         case rest =>
           obtain ⟨a6', c6', hT5, hR5, hG5, hA5, hZ5, hO5, b5, hz5⟩ := hcut
           clear hxk hTs hRs hGs hAs hZs hOs bws hzs hkm hil6 hil7 hcap hmax hck hmk
           have hil7 : (I.map fun i => (sorts vs).getD i none').length = t := by rw [List.length_map, HIl.out]
           have hmv : m < vs.length := by rw [← HL.out]; exact hml
           have hmv' : (m : Int) < (vs.length : Int) := by omega
           obtain ⟨cx, hx8, hxx⟩ := Holds.at hx (List.getElem?_eq_getElem hmv)
           have hcall := ih vs[m] (List.getElem_mem hmv)
           have hsm : (sorts vs).getD m none' = sort vs[m] := by
             rw [sorts_map, List.getD_eq_getElem?_getD, List.getElem?_map, List.getElem?_eq_getElem hmv]
             rfl
           generalize vs[m] = x at *
           have hx8' := hx8.below hg b5
           have hxx' := Hold.below b5 x hxx
           clear hx8 hxx
           obtain ⟨k', b', n', s', ks', vs'⟩ := x
           have hh2 := hxx'
           rw [Hold] at hh2
           obtain ⟨uk', a', c', rfl, -, -, -, -⟩ := hh2
           obtain ⟨d0, d1, d2, d3, d4, d5, d6, d7⟩ := hx8'.cells
           have hcall' := hcall wc.drew (.agg #[.int .i64 k', .bool b', .bool n'.neg, .string (txt n'.dig), .int .i64 n'.exp, .string (txt s'), uk', .slice a' vs'.length c']) ⟨_, rfl, Hold.below (drew_below wc) _ hxx'⟩
           generalize sort ⟨k', b', n', s', ks', vs'⟩ = z at *
           obtain ⟨zk, zb, zn, zs, zks, zvs⟩ := z
           obtain ⟨-, -, -, -, -, -, -, p7⟩ := eight hA5
           obtain ⟨-, -, -, -, -, -, -, q7⟩ := eight hO5
           have hgl := Nat.lt_of_lt_of_le hg b5.size
           have HS := Lib.hid hsm
           clear hsm hxx' hx8' hcall ih hx
           go_wp2_with fail
           go_region_law
             (first | (refine step_push (by rfl) _ _ (by rfl) (w.heap.size + 4) wc.heap.size hil7 (by rfl) (by rfl) (new8 wx _ rfl) ((hR5.below bx).below ((Below.refl _ wx).alloc (Nat.le_refl _) _)) (HoldP.keep (by simp) (fun g _ hlt => Below.heap_alloc _ _ _ hlt) _ hcy) hz5 (fun g e => (hR5.own_lt g e).2) (fun g e => (hT5.own_lt g e).2) (by omega) (by have := bx.size; simp; omega) ?_; intro g4 cap4 w4 hR4 hg4; have bX : Below (w.heap.size + 4) wc w4 := ((bx.mono hz5).alloc (by have := bx.size; omega) _).grown hg4 (by have := bx.size; simp; omega) (fun k e => (hR5.own_lt k e).1); have hO4 := (bX.block (w.heap.size + 1 + 1) (by omega)).trans hO5; have f4 := free_of hO4 7; have n0 := (bX.cell (p := ⟨w.heap.size, 7, none⟩) (by dsimp only; omega)).trans p7; have n1 := (bX.cell (p := ⟨w.heap.size + 1 + 1, 7, none⟩) (by dsimp only; omega)).trans q7; have n2 := (bX.cell (p := ⟨g, off + m * 8, none⟩) (by dsimp only; omega)).trans d0; have n3 := (bX.cell (p := ⟨g, off + m * 8 + 1, none⟩) (by dsimp only; omega)).trans d1; have n4 := (bX.cell (p := ⟨g, off + m * 8 + 2, none⟩) (by dsimp only; omega)).trans d2; have n5 := (bX.cell (p := ⟨g, off + m * 8 + 3, none⟩) (by dsimp only; omega)).trans d3; have n6 := (bX.cell (p := ⟨g, off + m * 8 + 4, none⟩) (by dsimp only; omega)).trans d4; have n7 := (bX.cell (p := ⟨g, off + m * 8 + 5, none⟩) (by dsimp only; omega)).trans d5; have n8 := (bX.cell (p := ⟨g, off + m * 8 + 6, none⟩) (by dsimp only; omega)).trans d6; have n9 := (bX.cell (p := ⟨g, off + m * 8 + 7, none⟩) (by dsimp only; omega)).trans d7) | (go_simp; go_at_call 50; refine hcall'.mono ?_; rintro e wx ⟨⟨y, rfl, hy⟩, kx⟩; obtain ⟨pk3, ck3, a3, c3, rfl, hcy⟩ := hy.form; have bx : Below wc.heap.size wc wx := (drew_below wc).trans kx; have y0 : w.heap.size < wx.heap.size := (by have := bx.size; omega); have y1 : w.heap.size + 1 + 1 < wx.heap.size := (by have := bx.size; omega); have y2 : g < wx.heap.size := (by have := bx.size; omega); have m0 := (bx.cell (World.block_lt_of_cell? _ _ p7)).trans p7; have m1 := (bx.cell (World.block_lt_of_cell? _ _ q7)).trans q7; have m2 := (bx.cell (World.block_lt_of_cell? _ _ d0)).trans d0; have m3 := (bx.cell (World.block_lt_of_cell? _ _ d1)).trans d1; have m4 := (bx.cell (World.block_lt_of_cell? _ _ d2)).trans d2; have m5 := (bx.cell (World.block_lt_of_cell? _ _ d3)).trans d3; have m6 := (bx.cell (World.block_lt_of_cell? _ _ d4)).trans d4; have m7 := (bx.cell (World.block_lt_of_cell? _ _ d5)).trans d5; have m8 := (bx.cell (World.block_lt_of_cell? _ _ d6)).trans d6; have m9 := (bx.cell (World.block_lt_of_cell? _ _ d7)).trans d7))
           all_goals
             go_wp2_with fail
             go_roundw
             case rel => exact ⟨t + 1, I ++ [m], _, _, _, by omega, by go_num, by rw [List.length_append, HIl.out]; rfl, HM.out, hG5.keep ((Below.heap_setCell w4 ⟨w.heap.size + 1 + 1, 7, none⟩ _ (w.heap.size + 1 + 1 + 1) (by dsimp only; omega)).trans (bX.block (w.heap.size + 1 + 1 + 1) (by omega))),
               by rw [List.map_append]; exact (RowT.apart ((hT5.below bx).below ((Below.refl _ wx).alloc (Nat.le_refl _) _)) ((hR5.below bx).below ((Below.refl _ wx).alloc (Nat.le_refl _) _)) hg4).other (grown_cell _ _ _ _) (by omega),
               by rw [List.map_append, List.map_singleton, HS.out]; exact hR4.other (grown_cell _ _ _ _) (by omega),
               set_other ((bX.block w.heap.size (by omega)).trans hA5) (by omega) _, set_other ((bX.block (w.heap.size + 1) (by omega)).trans hZ5) (by omega) _, set_of hO4 7 _, (b5.trans (bX.mono (by omega))).setCell (p := ⟨w.heap.size + 1 + 1, 7, none⟩) (by dsimp only; omega) _, by have := bX.size; simp; omega⟩
             case measure => simp [intOf]; omega
   · obtain rfl : t = ks.length := by omega
     have hd : decide (ks.length < ks.length) = false := by simp
     have hfinal := picked_all HI.out HL.out HND.out HIl.out
     have hk1 : I.map (kat ks) = (rows ks vs).map (·.1) := by rw [hfinal, List.map_map]; rfl
     have hk2 : (I.map fun i => (sorts vs).getD i none') = (rows ks vs).map (·.2) := by rw [hfinal, List.map_map]; rfl
     rw [hk1] at hT
     rw [hk2] at hR
     have hln1 : ((rows ks vs).map (·.1)).length = ks.length := by rw [← hk1, List.length_map, HIl.out]
     have hln2 : ((rows ks vs).map (·.2)).length = ks.length := by rw [← hk2, List.length_map, HIl.out]
     clear hk1 hk2 hfinal
     obtain ⟨a6, c6, rfl⟩ := hT.slice
     obtain ⟨a7, c7, rfl⟩ := hR.slice
     obtain ⟨o0, o1, o2, o3, o4, o5, o6, o7⟩ := eight hO
     have fZ := fun i => free_of hZ i
     have fz0 := fZ 0
     have fz1 := fZ 1
     have fz2 := fZ 2
     have fz3 := fZ 3
     have fz4 := fZ 4
     have fz5 := fZ 5
     have fz6 := fZ 6
     have fz7 := fZ 7
     obtain ⟨z0, z1, z2, z3, z4, z5, z6, z7⟩ := eight hZ
     generalize hr1 : (rows ks vs).map (·.1) = r1 at *
     generalize hr2 : (rows ks vs).map (·.2) = r2 at *
     have hfin := store8 hZ (.int .i64 6) (.bool b) (.bool n.neg) (.string (txt n.dig)) (.int .i64 n.exp) (.string (txt s)) (.slice a6 r1.length c6) (.slice a7 r2.length c7)
     have hgr := grown8 wo (w.heap.size + 1) (.int .i64 6) (.bool b) (.bool n.neg) (.string (txt n.dig)) (.int .i64 n.exp) (.string (txt s)) (.slice a6 r1.length c6) (.slice a7 r2.length c7)
     have hbl := below_set8 bB (g := w.heap.size + 1) (by omega) (.int .i64 6) (.bool b) (.bool n.neg) (.string (txt n.dig)) (.int .i64 n.exp) (.string (txt s)) (.slice a6 r1.length c6) (.slice a7 r2.length c7)
     have HF := Lib.hid hfin
     have HG := Lib.hid hgr
     have HB := Lib.hid hbl
     have H1 := Lib.hid hln1
     have H2 := Lib.hid hln2
     have R1 := Lib.hid hr1
     have R2 := Lib.hid hr2
     clear hfin hgr hbl hr1 hr2 hln1 hln2
     go_wp2_with fail
     have hfin := HF.out
     have hgr := HG.out
     have hbl := HB.out
     clear HF HG HB fz0 fz1 fz2 fz3 fz4 fz5 fz6 fz7 z0 z1 z2 z3 z4 z5 z6 z7 fZ
     generalize ((((((((wo.setCell ⟨w.heap.size + 1, 0, none⟩ (.int .i64 6)).setCell ⟨w.heap.size + 1, 1, none⟩ (.bool b)).setCell ⟨w.heap.size + 1, 2, none⟩ (.bool n.neg)).setCell ⟨w.heap.size + 1, 3, none⟩ (.string (txt n.dig))).setCell ⟨w.heap.size + 1, 4, none⟩ (.int .i64 n.exp)).setCell ⟨w.heap.size + 1, 5, none⟩ (.string (txt s))).setCell ⟨w.heap.size + 1, 6, none⟩ (.slice a6 r1.length c6)).setCell ⟨w.heap.size + 1, 7, none⟩ (.slice a7 r2.length c7)) = wf at *
     obtain ⟨z0, z1, z2, z3, z4, z5, z6, z7⟩ := eight hfin
     refine bodyPost_ret (v := .agg #[.int .i64 6, .bool b, .bool n.neg, .string (txt n.dig), .int .i64 n.exp, .string (txt s), .slice a6 r1.length c6, .slice a7 r2.length c7]) (by simp [results, Tryz.results50, go_sem, z0, z1, z2, z3, z4, z5, z6, z7]) rfl ⟨⟨_, rfl, _, rfl, ?_⟩, hbl⟩
     have hR2 := (hR.other hgr (by omega)).holds
     have hT2 := (hT.other hgr (by omega)).holds
     obtain ⟨a5, c5, e5, h51, h52, h53⟩ := hR2
     rw [e5, R1.out, R2.out]
     rw [HoldP]
     refine ⟨.slice a6 r1.length c6, a5, c5, rfl, KsP.mono (X := (w.heap.size + 4 ≤ ·)) hT2 (fun g h _ => by omega), h51, h52, ?_⟩
     rcases h53 with h | ⟨g5, o5, e6, h54, h55, h56⟩
     · exact .inl h
     · exact .inr ⟨g5, o5, e6, by omega, h55, HoldsP.mono (fun g h _ => by omega) _ h56⟩
end Go.Proofs.YtlfbnfphocpgeaaGreatDoor.Tre
