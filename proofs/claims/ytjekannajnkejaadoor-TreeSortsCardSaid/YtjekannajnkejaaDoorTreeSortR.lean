/- The contract of the document's own answer for layer 8 (package tabulariumref08): Sort. Nothing is claimed here. -/
import Derived.Test.YtjekannajnkejaaDoorTreeFresh
import Derived.Test.YtjekannajnkejaaDoorTreeGet
import Derived.Test.YtjekannajnkejaaDoorTreeSort
import Derived.Test.YtjekannajnkejaaDoorTreeRoom
import Derived.BigQuiet
import Derived.Deep.RegionWith
import Derived.Deep.RegionLaw
import Derived.Deep.RegionHeld3
import Derived.Deep.CutRange
namespace Go.Proofs.YtjekannajnkejaaDoor.Tre
open Go.RowKit Kit Txt
open Num (Dec zero)

theorem drew_below (w : World) : Below w.heap.size w w.drew := below_drewN (Below.refl _ w) 1
theorem grown_cell (w : World) (b i : Nat) (v : Value) : w.grownBy (w.setCell ⟨b, i, none⟩ v) (some b) :=
  ⟨rfl, rfl, rfl, (KeepsWalks.setCell w _ v).size, fun k _ hk => Below.heap_setCell _ _ _ k (fun e => hk (by rw [e]))⟩
theorem set_other {w : World} {b b' i : Nat} {x : Obj} (h : w.heap[b']? = some x) (hne : b' ≠ b) (v : Value) : (w.setCell ⟨b, i, none⟩ v).heap[b']? = some x := (Below.heap_setCell w ⟨b, i, none⟩ v b' hne).trans h
theorem grown_trans {a b c : World} {row : Option Nat} (h : a.grownBy b row) (k : b.grownBy c row) : a.grownBy c row :=
  ⟨k.os.trans h.os, k.tape.trans h.tape, k.output.trans h.output, Nat.le_trans h.size k.size, fun i hi hr => (k.block i (Nat.lt_of_lt_of_le hi h.size) hr).trans (h.block i hi hr)⟩
/-- A block of eight cells, all stored anew. -/
theorem store8 {W : World} {g : Nat} {z0 z1 z2 z3 z4 z5 z6 z7 : Value} {t : TypeId} {fr : Nat × Nat} (h : W.heap[g]? = some (.cells #[z0, z1, z2, z3, z4, z5, z6, z7] t fr)) (a0 a1 a2 a3 a4 a5 a6 a7 : Value) :
    ((((((((W.setCell ⟨g, 0, none⟩ a0).setCell ⟨g, 1, none⟩ a1).setCell ⟨g, 2, none⟩ a2).setCell ⟨g, 3, none⟩ a3).setCell ⟨g, 4, none⟩ a4).setCell ⟨g, 5, none⟩ a5).setCell ⟨g, 6, none⟩ a6).setCell ⟨g, 7, none⟩ a7).heap[g]? = some (.cells #[a0, a1, a2, a3, a4, a5, a6, a7] t fr) := by
  have := set_of (set_of (set_of (set_of (set_of (set_of (set_of (set_of h 0 a0) 1 a1) 2 a2) 3 a3) 4 a4) 5 a5) 6 a6) 7 a7
  simpa using this
theorem grown8 (W : World) (g : Nat) (a0 a1 a2 a3 a4 a5 a6 a7 : Value) : W.grownBy ((((((((W.setCell ⟨g, 0, none⟩ a0).setCell ⟨g, 1, none⟩ a1).setCell ⟨g, 2, none⟩ a2).setCell ⟨g, 3, none⟩ a3).setCell ⟨g, 4, none⟩ a4).setCell ⟨g, 5, none⟩ a5).setCell ⟨g, 6, none⟩ a6).setCell ⟨g, 7, none⟩ a7) (some g) :=
  grown_trans (grown_trans (grown_trans (grown_trans (grown_trans (grown_trans (grown_trans (grown_cell _ g 0 _) (grown_cell _ g 1 _)) (grown_cell _ g 2 _)) (grown_cell _ g 3 _)) (grown_cell _ g 4 _)) (grown_cell _ g 5 _)) (grown_cell _ g 6 _)) (grown_cell _ g 7 _)
/-- The eight cells of a new block. -/
theorem new8 (w : World) (c : List Value) (_hc : c.length = 8) : ∀ j, j < 8 → (w.alloc (.cells c.toArray 27)).cell? ⟨w.heap.size, j, none⟩ = c[j]? := fun j _ => by
  rw [cell_of (World.alloc_heap_new w (.cells c.toArray 27))]
  simp
/-- A held value, cell by cell. -/
theorem HoldF.form {B : Nat} {w : World} {y : Value} {k : Int} {b : Bool} {n : Dec} {s : List UInt8} {ks : List (List UInt8)} {vs : List Val} (h : HoldF B w y ⟨k, b, n, s, ks, vs⟩) : ∃ pk ck a c, y = .agg #[.int .i64 k, .bool b, .bool n.neg, .string (txt n.dig), .int .i64 n.exp, .string (txt s), .slice pk ks.length ck, .slice a vs.length c] ∧
    HoldP (B ≤ ·) w [.int .i64 k, .bool b, .bool n.neg, .string (txt n.dig), .int .i64 n.exp, .string (txt s), .slice pk ks.length ck, .slice a vs.length c] ⟨k, b, n, s, ks, vs⟩ := by
  obtain ⟨cs, rfl, hc⟩ := h
  have hc2 := hc
  rw [HoldP] at hc2
  obtain ⟨uk, a, c, rfl, ⟨pk, ck, rfl, -⟩, -⟩ := hc2
  exact ⟨pk, ck, a, c, rfl, hc⟩
theorem RowC.slice {N : Option Nat} {B : Nat} {w : World} {u : Value} {vs : List Val} {cs : List (List Value)} (h : RowC N B w u vs cs) : ∃ a c, u = .slice a vs.length c := by
  obtain ⟨a, c, hu, _⟩ := h.holds
  exact ⟨a, c, hu⟩

set_option maxRecDepth 100000 in
set_option maxHeartbeats 8000000 in
theorem rsort_list {v : Val} (h6 : v.kind ≠ 6) (ih : ∀ x ∈ v.kids, ∀ (w : World) (u : Value), HoldV w u x → Calls Tryd.prog 16 #[u] w fun e w' => (∃ y, e = .returned y ∧ HoldF w.heap.size w' y (sort x)) ∧ Below w.heap.size w w')
    (hn : v.kids.length < 1000000) {w : World} {u : Value} (h : HoldV w u v) : Calls Tryd.prog 16 #[u] w fun e w' => (∃ y, e = .returned y ∧ HoldF w.heap.size w' y (sort v)) ∧ Below w.heap.size w w' := by
  obtain ⟨k, b, n, s, ks, vs⟩ := v
  unfold Val.kind at h6
  unfold Val.kids at ih hn
  dsimp only at h6 ih hn
  have hso : sort ⟨k, b, n, s, ks, vs⟩ = ⟨k, b, n, s, [], sorts vs⟩ := by rw [sort, if_neg h6]
  rw [hso]
  clear hso
  obtain ⟨cs, rfl, hc⟩ := h
  rw [Hold] at hc
  obtain ⟨uk, a, c, rfl, hk, hcap, hmax, hv⟩ := hc
  show Calls Tryd.prog 16 #[.agg #[.int .i64 k, .bool b, .bool n.neg, .string (txt n.dig), .int .i64 n.exp, .string (txt s), uk, .slice a vs.length c]] w _
  have h6' : (k != 6) = true := by simpa using h6
  clear h6 hk
  have hE := World.alloc_heap_new w (.cells #[.int .i64 k, .bool b, .bool n.neg, .string (txt n.dig), .int .i64 n.exp, .string (txt s), uk, .slice a vs.length c] 27)
  obtain ⟨w1, hw1⟩ : ∃ w1, ((w.alloc (.cells #[.int .i64 k, .bool b, .bool n.neg, .string (txt n.dig), .int .i64 n.exp, .string (txt s), uk, .slice a vs.length c] 27)).alloc (.cells #[.int .i64 0, .bool false, .bool false, .string ⟨#[]⟩, .int .i64 0, .string ⟨#[]⟩, .slice none 0 0, .slice none 0 0] 27)).alloc (.cells #[.int .i64 k, .bool b, .bool n.neg, .string (txt n.dig), .int .i64 n.exp, .string (txt s), .slice none 0 0, .slice none 0 0] 27) = w1 := ⟨_, rfl⟩
  have hz1 : w1.heap.size = w.heap.size + 3 := by rw [← hw1]; simp
  have hA1 : w1.heap[w.heap.size]? = some (.cells #[.int .i64 k, .bool b, .bool n.neg, .string (txt n.dig), .int .i64 n.exp, .string (txt s), uk, .slice a vs.length c] 27 (0, 0)) := by rw [← hw1]; exact new_of (new_of hE _) _
  have hZ1 : w1.heap[w.heap.size + 1]? = some (.cells #[.int .i64 0, .bool false, .bool false, .string ⟨#[]⟩, .int .i64 0, .string ⟨#[]⟩, .slice none 0 0, .slice none 0 0] 27 (0, 0)) := by
    rw [← hw1]
    refine new_of ?_ _
    have := World.alloc_heap_new (w.alloc (.cells #[.int .i64 k, .bool b, .bool n.neg, .string (txt n.dig), .int .i64 n.exp, .string (txt s), uk, .slice a vs.length c] 27)) (.cells #[.int .i64 0, .bool false, .bool false, .string ⟨#[]⟩, .int .i64 0, .string ⟨#[]⟩, .slice none 0 0, .slice none 0 0] 27)
    rwa [World.size_alloc] at this
  have hO1 : w1.heap[w.heap.size + 1 + 1]? = some (.cells #[.int .i64 k, .bool b, .bool n.neg, .string (txt n.dig), .int .i64 n.exp, .string (txt s), .slice none 0 0, .slice none 0 0] 27 (0, 0)) := by
    rw [← hw1]
    have := World.alloc_heap_new ((w.alloc (.cells #[.int .i64 k, .bool b, .bool n.neg, .string (txt n.dig), .int .i64 n.exp, .string (txt s), uk, .slice a vs.length c] 27)).alloc (.cells #[.int .i64 0, .bool false, .bool false, .string ⟨#[]⟩, .int .i64 0, .string ⟨#[]⟩, .slice none 0 0, .slice none 0 0] 27)) (.cells #[.int .i64 k, .bool b, .bool n.neg, .string (txt n.dig), .int .i64 n.exp, .string (txt s), .slice none 0 0, .slice none 0 0] 27)
    rwa [World.size_alloc, World.size_alloc] at this
  have b1 : Below w.heap.size w w1 := by rw [← hw1]; exact (((Below.refl _ w).alloc (Nat.le_refl _) _).alloc (by simp) _).alloc (by simp; omega) _
  have HW := Lib.hid hw1
  clear hw1 hE
  go_enter Tryd.func16, Tryd.ntmps16
  go_wp2_with fail
  rw [HW.out]
  go_loopw [4] (fun y wr => ∃ (j : Nat) (uo : Value) (co : List (List Value)), j ≤ vs.length ∧ y = .int .i64 (j : Int) ∧ RowC none (w.heap.size + 3) wr uo ((sorts vs).take j) co ∧
      wr.heap[w.heap.size]? = some (.cells #[.int .i64 k, .bool b, .bool n.neg, .string (txt n.dig), .int .i64 n.exp, .string (txt s), uk, .slice a vs.length c] 27 (0, 0)) ∧
      wr.heap[w.heap.size + 1]? = some (.cells #[.int .i64 0, .bool false, .bool false, .string ⟨#[]⟩, .int .i64 0, .string ⟨#[]⟩, .slice none 0 0, .slice none 0 0] 27 (0, 0)) ∧
      wr.heap[w.heap.size + 1 + 1]? = some (.cells #[.int .i64 k, .bool b, .bool n.neg, .string (txt n.dig), .int .i64 n.exp, .string (txt s), .slice none 0 0, uo] 27 (0, 0)) ∧ Below w.heap.size w wr ∧ w.heap.size + 3 ≤ wr.heap.size) (fun y _ => vs.length - (intOf y).toNat)
  case atStart => exact ⟨0, _, [], Nat.zero_le _, rfl, by rw [List.take_zero]; exact RowC.nil _ _ _, hA1, hZ1, hO1, b1, by omega⟩
  case round =>
    clear hA1 hZ1 hO1 b1 hz1 HW
    obtain ⟨j, uo, co, hj, rfl, hR, hA, hZ, hO, bB, hz⟩ := hrel
    have hRs := hR.slice
    obtain ⟨ao, cpo, rfl⟩ := hRs
    have htl : ((sorts vs).take j).length = j := by rw [List.length_take, sorts_len]; omega
    rw [htl] at hO hR
    obtain ⟨-, -, -, -, -, -, -, p7⟩ := eight hA
    obtain ⟨-, -, -, -, -, -, -, q7⟩ := eight hO
    have f7 := free_of hO 7
    by_cases hlt : j < vs.length
    · have hlt' : (j : Int) < (vs.length : Int) := by omega
      rcases hv with rfl | ⟨g, off, rfl, hg, hx⟩
      · exact absurd hlt (Nat.not_lt_zero _)
      obtain ⟨cx, hx8, hxx⟩ := Holds.at hx (List.getElem?_eq_getElem hlt)
      have hcall := ih vs[j] (List.getElem_mem hlt)
      have hsj : (sorts vs).take (j + 1) = (sorts vs).take j ++ [sort vs[j]] := by
        rw [sorts_map, List.take_succ_eq_append_getElem (by rw [List.length_map]; exact hlt), List.getElem_map]
      generalize vs[j] = x at *
      have hx8' := hx8.below hg bB
      have hxx' := Hold.below bB x hxx
      clear hx8 hxx
      obtain ⟨k', b', n', s', ks', vs'⟩ := x
      have hh2 := hxx'
      rw [Hold] at hh2
      obtain ⟨uk', a', c', rfl, -, -, -, -⟩ := hh2
      obtain ⟨d0, d1, d2, d3, d4, d5, d6, d7⟩ := hx8'.cells
      have hcall' := hcall wr.drew (.agg #[.int .i64 k', .bool b', .bool n'.neg, .string (txt n'.dig), .int .i64 n'.exp, .string (txt s'), uk', .slice a' vs'.length c']) ⟨_, rfl, Hold.below (drew_below wr) _ hxx'⟩
      generalize sort ⟨k', b', n', s', ks', vs'⟩ = z at *
      obtain ⟨zk, zb, zn, zs, zks, zvs⟩ := z
      have wk : IntKind.i64.wrap ((j : Int) + 1) = (j : Int) + 1 := by simp only [IntKind.wrap, IntKind.signed, IntKind.bits]; simp; omega
      have hgl := Nat.lt_of_lt_of_le hg bB.size
      have hal := lt_of_heap hA
      have hol := lt_of_heap hO
      have HS := Lib.hid hsj
      clear hsj hxx' hx8' hcall ih hx
      go_wp2_with fail
      go_region_law
        (first | (refine step_push (by rfl) _ _ (by rfl) (w.heap.size + 3) wr.heap.size htl (by rfl) (by rfl) (new8 wx _ rfl) ((hR.below bx).below ((Below.refl _ wx).alloc (Nat.le_refl _) _)) (HoldP.keep (by simp) (fun g _ hlt => Below.heap_alloc _ _ _ hlt) _ hcy) hz (fun g e => (hR.own_lt g e).2) (fun g e => by cases e) (by omega) (by have := bx.size; simp; omega) ?_; intro g4 cap4 w4 hR4 hg4; have bX : Below (w.heap.size + 3) wr w4 := ((bx.mono hz).alloc (by have := bx.size; omega) _).grown hg4 (by have := bx.size; simp; omega) (fun k e => (hR.own_lt k e).1); have hO4 := (bX.block (w.heap.size + 1 + 1) (by omega)).trans hO; have f4 := free_of hO4 7; have n0 := (bX.cell (p := ⟨w.heap.size, 7, none⟩) (by dsimp only; omega)).trans p7; have n1 := (bX.cell (p := ⟨w.heap.size + 1 + 1, 7, none⟩) (by dsimp only; omega)).trans q7; have n2 := (bX.cell (p := ⟨g, off + j * 8, none⟩) (by dsimp only; omega)).trans d0; have n3 := (bX.cell (p := ⟨g, off + j * 8 + 1, none⟩) (by dsimp only; omega)).trans d1; have n4 := (bX.cell (p := ⟨g, off + j * 8 + 2, none⟩) (by dsimp only; omega)).trans d2; have n5 := (bX.cell (p := ⟨g, off + j * 8 + 3, none⟩) (by dsimp only; omega)).trans d3; have n6 := (bX.cell (p := ⟨g, off + j * 8 + 4, none⟩) (by dsimp only; omega)).trans d4; have n7 := (bX.cell (p := ⟨g, off + j * 8 + 5, none⟩) (by dsimp only; omega)).trans d5; have n8 := (bX.cell (p := ⟨g, off + j * 8 + 6, none⟩) (by dsimp only; omega)).trans d6; have n9 := (bX.cell (p := ⟨g, off + j * 8 + 7, none⟩) (by dsimp only; omega)).trans d7) | (go_simp; go_at_call 16; refine hcall'.mono ?_; rintro e wx ⟨⟨y, rfl, hy⟩, kx⟩; obtain ⟨pk3, ck3, a3, c3, rfl, hcy⟩ := hy.form; have bx : Below wr.heap.size wr wx := (drew_below wr).trans kx; have y0 : w.heap.size < wx.heap.size := (by have := bx.size; omega); have y1 : w.heap.size + 1 + 1 < wx.heap.size := (by have := bx.size; omega); have y2 : g < wx.heap.size := (by have := bx.size; omega); have m0 := (bx.cell (World.block_lt_of_cell? _ _ p7)).trans p7; have m1 := (bx.cell (World.block_lt_of_cell? _ _ q7)).trans q7; have m2 := (bx.cell (World.block_lt_of_cell? _ _ d0)).trans d0; have m3 := (bx.cell (World.block_lt_of_cell? _ _ d1)).trans d1; have m4 := (bx.cell (World.block_lt_of_cell? _ _ d2)).trans d2; have m5 := (bx.cell (World.block_lt_of_cell? _ _ d3)).trans d3; have m6 := (bx.cell (World.block_lt_of_cell? _ _ d4)).trans d4; have m7 := (bx.cell (World.block_lt_of_cell? _ _ d5)).trans d5; have m8 := (bx.cell (World.block_lt_of_cell? _ _ d6)).trans d6; have m9 := (bx.cell (World.block_lt_of_cell? _ _ d7)).trans d7))
      all_goals
        go_wp2_with fail
        go_roundw
        case rel => exact ⟨j + 1, _, _, by omega, by go_num, by rw [HS.out]; exact hR4.other (grown_cell _ _ _ _) (by omega), set_other ((bX.block w.heap.size (by omega)).trans hA) (by omega) _, set_other ((bX.block (w.heap.size + 1) (by omega)).trans hZ) (by omega) _, set_of hO4 7 _, (bB.trans (bX.mono (by omega))).setCell (p := ⟨w.heap.size + 1 + 1, 7, none⟩) (by dsimp only; omega) _, by have := bX.size; simp; omega⟩
        case measure => simp [intOf]; omega
    · obtain rfl : j = vs.length := by omega
      have hd : decide (vs.length < vs.length) = false := by simp
      rw [List.take_of_length_le (by rw [sorts_len]; exact Nat.le_refl _)] at hR
      obtain ⟨o0, o1, o2, o3, o4, o5, o6, -⟩ := eight hO
      clear p7
      obtain ⟨-, -, -, -, -, -, -, p7⟩ := eight hA
      have fZ := fun i => free_of hZ i
      have fz0 := fZ 0
      have fz1 := fZ 1
      have fz2 := fZ 2
      have fz3 := fZ 3
      have fz4 := fZ 4
      have fz5 := fZ 5
      have fz6 := fZ 6
      have fz7 := fZ 7
      obtain ⟨z0, z1, z2, z3, z4, z5, z6, z7⟩ := eight hZ
      have hfin := store8 hZ (.int .i64 k) (.bool b) (.bool n.neg) (.string (txt n.dig)) (.int .i64 n.exp) (.string (txt s)) (.slice none 0 0) (.slice ao vs.length cpo)
      have hgr := grown8 wr (w.heap.size + 1) (.int .i64 k) (.bool b) (.bool n.neg) (.string (txt n.dig)) (.int .i64 n.exp) (.string (txt s)) (.slice none 0 0) (.slice ao vs.length cpo)
      have hbl := below_set8 bB (g := w.heap.size + 1) (by omega) (.int .i64 k) (.bool b) (.bool n.neg) (.string (txt n.dig)) (.int .i64 n.exp) (.string (txt s)) (.slice none 0 0) (.slice ao vs.length cpo)
      have HF := Lib.hid hfin
      have HG := Lib.hid hgr
      have HB := Lib.hid hbl
      clear hfin hgr hbl
      go_wp2_with fail
      have hfin := HF.out
      have hgr := HG.out
      have hbl := HB.out
      clear HF HG HB fz0 fz1 fz2 fz3 fz4 fz5 fz6 fz7 z0 z1 z2 z3 z4 z5 z6 z7 fZ
      generalize ((((((((wr.setCell ⟨w.heap.size + 1, 0, none⟩ (.int .i64 k)).setCell ⟨w.heap.size + 1, 1, none⟩ (.bool b)).setCell ⟨w.heap.size + 1, 2, none⟩ (.bool n.neg)).setCell ⟨w.heap.size + 1, 3, none⟩ (.string (txt n.dig))).setCell ⟨w.heap.size + 1, 4, none⟩ (.int .i64 n.exp)).setCell ⟨w.heap.size + 1, 5, none⟩ (.string (txt s))).setCell ⟨w.heap.size + 1, 6, none⟩ (.slice none 0 0)).setCell ⟨w.heap.size + 1, 7, none⟩ (.slice ao vs.length cpo)) = wf at *
      obtain ⟨z0, z1, z2, z3, z4, z5, z6, z7⟩ := eight hfin
      refine bodyPost_ret (v := .agg #[.int .i64 k, .bool b, .bool n.neg, .string (txt n.dig), .int .i64 n.exp, .string (txt s), .slice none 0 0, .slice ao vs.length cpo]) (by simp [results, Tryd.results16, go_sem, z0, z1, z2, z3, z4, z5, z6, z7]) rfl ⟨⟨_, rfl, _, rfl, ?_⟩, hbl⟩
      have hR2 := (hR.other hgr (by omega)).holds
      rw [sorts_len] at hR2
      obtain ⟨a5, c5, e5, h51, h52, h53⟩ := hR2
      rw [e5]
      rw [HoldP, sorts_len]
      refine ⟨.slice none 0 0, a5, c5, rfl, ⟨none, 0, rfl, Nat.le_refl _, by omega, .inl rfl⟩, h51, h52, ?_⟩
      rcases h53 with h | ⟨g5, o5, e6, h54, h55, h56⟩
      · exact .inl h
      · exact .inr ⟨g5, o5, e6, by omega, h55, HoldsP.mono (fun g h _ => by omega) _ h56⟩
end Go.Proofs.YtjekannajnkejaaDoor.Tre
