/- A part of what is_holds leans on (its texts, put together). Nothing is claimed here. -/
import Derived.Laws.Cover3
import Derived.Test.YtlfbnfphocpgeaaGreatDoorIs32
namespace Go.Proofs.YtlfbnfphocpgeaaGreatDoor.Tre
open Go.RowKit Kit Txt
open Num (Dec zero)
set_option maxRecDepth 100000 in
theorem clone_any {l : List UInt8} (hl : l.length < 1000000) {w : World} : Calls Tryz.prog 78 #[.string (txt l)] w fun e w' => e = .returned (.string (txt l)) ∧ Below w.heap.size w w' := by
 have h := Tryz.stringslite_Clone (txt l) w (by rw [txt_size]; omega)
 go_enter Tryz.func78, Tryz.ntmps78
 go_wp2_with fail
 refine h.mono ?_
 rintro e w1 ⟨rfl, k1⟩
 go_wp2_with fail
 go_ret
 exact ⟨rfl, k1⟩
theorem eql_slice_nil {P : Program} {t e : TypeId} (h : P.underlying t = some (.slice e)) (l c : Nat) (w : World) : (binOp .eql t (.slice none l c) (.slice none 0 0)).run P w = .ok (.bool true) w := by
 simp only [binOp]
 simp [run_equal_slice_nil w t e none l c h]
theorem eql_slice_some {P : Program} {t e : TypeId} (h : P.underlying t = some (.slice e)) (p : Addr) (l c : Nat) (w : World) : (binOp .eql t (.slice (some p) l c) (.slice none 0 0)).run P w = .ok (.bool false) w := by
 simp only [binOp]
 simp [run_equal_slice_nil w t e (some p) l c h]
theorem infoStr : (Tryz.prog.info? 9).map (fun i => (i.zero, i.size, i.bytes)) = some (some (.string ⟨#[]⟩), 1, 16) := by kernel_rfl
theorem infoVal : (Tryz.prog.info? 29).map (fun i => (i.zero.isSome, i.size, i.bytes)) = some (true, 8, 112) := by kernel_rfl
theorem make_val {n : Nat} (hn : n < 1000000) (w : World) : ∃ arr : Array Value, arr.size = n * 8 ∧ (Instr.makeSlice 27 (.int .i64 (n : Int)) (.int .i64 (n : Int))).run Tryz.prog w = .ok (.slice (some ⟨w.heap.size, 0, none⟩) n n) (w.alloc (.cells arr 29)) := by
 obtain ⟨i, hi, hzz⟩ := Option.map_eq_some_iff.1 infoVal
 simp only [Prod.mk.injEq] at hzz
 obtain ⟨hz, hs, hb⟩ := hzz
 obtain ⟨z, hz⟩ := Option.isSome_iff_exists.1 hz
 have hr := run_make (P := Tryz.prog) w 27 29 i _ Tryz.underlying27 hi hz .i64 .i64 n n (by omega) (by omega) (by rw [hb]; omega) (by omega)
 simp only [Int.toNat_natCast] at hr
 exact ⟨_, by rw [size_madeCells, hs], hr⟩
set_option maxRecDepth 100000 in
set_option maxHeartbeats 4000000 in
theorem eachS_any {w : World} {u : Value} {ls : List (List UInt8)} (hn : ls.length < 1000000) (hs : ∀ x ∈ ls, x.length < 1000000) (h : Ks w u ls) : Calls Tryz.prog 79 #[u, .func (.func 78) #[] #[]] w fun e w' => (∃ y, e = .returned y ∧ SepK w' w.heap.size w'.heap.size y ls) ∧ Below w.heap.size w w' := by
 obtain ⟨a, c, rfl, hc, hm, hx⟩ := h
 rcases a with _ | ad
 · have h0 : ls = [] := by
     rcases hx with h | ⟨g, off, ha, _⟩
     · exact h
     · cases ha
   subst h0
   have hnil := eql_slice_nil Tryz.underlying26
   go_enter Tryz.func79, Tryz.ntmps79
   go_wp2_with fail
   go_ret
   exact ⟨⟨_, rfl, none, 0, rfl, Nat.le_refl _, by omega, .inl rfl⟩, Below.refl _ _⟩
 · have hnil := eql_slice_some Tryz.underlying26 ad
   have hmk := fun wx => run_make_row' (P := Tryz.prog) 26 9 (.string ⟨#[]⟩) 16 Tryz.underlying26 infoStr rfl .i64 .i64 ls.length (by omega) (by omega) wx
   have hG := World.alloc_heap_new w (.cells (madeCells #[.string ⟨#[]⟩] ls.length) 9)
   have bG : Below w.heap.size w (w.alloc (.cells (madeCells #[.string ⟨#[]⟩] ls.length) 9)) := (Below.refl _ w).alloc (Nat.le_refl _) _
   go_enter Tryz.func79, Tryz.ntmps79
   go_wp2_with fail
   go_loopw [15] (fun y wr => ∃ j : Nat, j ≤ ls.length ∧ y = .int .i64 j ∧ (∃ arr : Array Value, wr.heap[w.heap.size]? = some (.cells arr 9 (0, 0)) ∧ arr.size = ls.length ∧ ∀ (i : Nat) (l : List UInt8), i < j → ls[i]? = some l → arr[i]? = some (.string (txt l))) ∧ Below w.heap.size w wr) (fun y _ => ls.length - (intOf y).toNat)
   case atStart => exact ⟨0, Nat.zero_le _, rfl, ⟨_, hG, size_madeCells _ _, fun i l hi => absurd hi (Nat.not_lt_zero _)⟩, bG⟩
   case round =>
     obtain ⟨j, hj, rfl, ⟨arr, hA, hz, hcp⟩, bB⟩ := hrel
     clear hmk hG bG hnil
     by_cases hlt : j < ls.length
     · have hlt' : (j : Int) < (ls.length : Int) := by omega
       rcases hx with rfl | ⟨g, off, ha, hg, hx⟩
       · exact absurd hlt (Nat.not_lt_zero _)
       injection ha with ha
       subst ha
       have hcell := (bB.cell (p := ⟨g, off + j, none⟩) hg).trans (hx j _ (List.getElem?_eq_getElem hlt))
       have hlj := hs ls[j] (List.getElem_mem hlt)
       have hnext : ∀ (i : Nat) (l : List UInt8), i < j + 1 → ls[i]? = some l → i ≠ j → arr[i]? = some (.string (txt l)) := fun i l hi hl hne => hcp i l (by omega) hl
       have hget : ls[j]? = some ls[j] := List.getElem?_eq_getElem hlt
       generalize ls[j] = l at *
       have hcl := clone_any hlj (w := wr)
       have wk : IntKind.i64.wrap ((j : Int) + 1) = (j : Int) + 1 := by simp only [IntKind.wrap, IntKind.signed, IntKind.bits]; simp; omega
       have HX := Lib.hid hx
       have HN := Lib.hid hnext
       have HG := Lib.hid hget
       have HS := Lib.hid hs
       clear hx hcp hnext hget hs hm
       go_wp2_with fail
       refine hcl.mono ?_
       rintro e w1 ⟨rfl, k1⟩
       have hA1 := (k1.block _ (lt_of_heap hA)).trans hA
       have hc1 : w1.cell? ⟨w.heap.size, j, none⟩ = some arr[j] := (cell_of hA1 j).trans (Array.getElem?_eq_getElem (by omega))
       have hf1 := free_of hA1 j
       have b1 := bB.trans (k1.mono bB.size)
       go_wp2_with fail
       go_roundw
       case rel =>
         refine ⟨j + 1, by omega, by go_num, ⟨_, set_of hA1 j _, by rw [Array.size_setIfInBounds, hz], fun i x hi hx => ?_⟩, b1.setCell (p := ⟨w.heap.size, j, none⟩) (Nat.le_refl _) _⟩
         by_cases e : i = j
         · subst e
           rw [HG.out] at hx
           injection hx with hx
           subst hx
           rw [Array.getElem?_setIfInBounds_self_of_lt (by omega)]
         · rw [Array.getElem?_setIfInBounds_ne (fun h => e h.symm)]
           exact HN.out i x hi hx e
       case measure => simp [intOf]; omega
     · obtain rfl : j = ls.length := by omega
       go_wp2_with fail
       go_ret
       refine ⟨⟨_, rfl, _, _, rfl, Nat.le_refl _, by omega, .inr ⟨w.heap.size, rfl, Nat.le_refl _, lt_of_heap hA, ⟨_, _, hA⟩, fun i l hl => ?_⟩⟩, bB⟩
       rw [cell_of hA]
       exact hcp i l (List.getElem?_eq_some_iff.1 hl).1 hl
def Copied (v : Val) (w : World) (e : Ending) (w' : World) : Prop := (∃ cs : List Value, e = .returned (.agg cs.toArray) ∧ Sep w' w.heap.size w'.heap.size cs v) ∧ Below w.heap.size w w'
def SepV (w : World) (lo hi : Nat) (u : Value) (vs : List Val) : Prop := ∃ a c, u = .slice a vs.length c ∧ vs.length ≤ c ∧ c ≤ 9223372036854775807 ∧ (vs = [] ∨ ∃ g, a = some ⟨g, 0, none⟩ ∧ lo ≤ g ∧ g < hi ∧ Blk w g ∧ Seps w (g + 1) hi g 0 vs)
set_option maxRecDepth 100000 in
set_option maxHeartbeats 4000000 in
theorem eachV_any {w : World} {a : Option Addr} {c : Nat} {vs : List Val} (hn : vs.length < 1000000) (ih : ∀ x ∈ vs, ∀ (w : World) (u : Value), HoldV w u x → Calls Tryz.prog 53 #[u] w (Copied x w)) (h : Kids w a c vs) : Calls Tryz.prog 80 #[.slice a vs.length c, .func (.func 53) #[] #[]] w fun e w' => (∃ y, e = .returned y ∧ SepV w' w.heap.size w'.heap.size y vs) ∧ Below w.heap.size w w' := by
 obtain ⟨hc, hm, hx⟩ := h
 rcases a with _ | ad
 · have h0 : vs = [] := by
     rcases hx with h | ⟨g, off, ha, _⟩
     · exact h
     · cases ha
   subst h0
   have hnil := eql_slice_nil Tryz.underlying27
   clear ih
   go_enter Tryz.func80, Tryz.ntmps80
   go_wp2_with fail
   go_ret
   exact ⟨⟨_, rfl, none, 0, rfl, Nat.le_refl _, by omega, .inl rfl⟩, Below.refl _ _⟩
 · have hnil := eql_slice_some Tryz.underlying27 ad
   obtain ⟨arr0, hz0, hmk⟩ := make_val hn w
   have hG := World.alloc_heap_new w (.cells arr0 29)
   have bG : Below w.heap.size w (w.alloc (.cells arr0 29)) := (Below.refl _ w).alloc (Nat.le_refl _) _
   have IH := Lib.hid ih
   clear ih
   go_enter Tryz.func80, Tryz.ntmps80
   go_wp2_with fail
   go_loopw [15] (fun y wr => ∃ j : Nat, j ≤ vs.length ∧ y = .int .i64 j ∧ (∃ arr : Array Value, wr.heap[w.heap.size]? = some (.cells arr 29 (0, 0)) ∧ arr.size = vs.length * 8) ∧ Seps wr (w.heap.size + 1) wr.heap.size w.heap.size 0 (vs.take j) ∧ Below w.heap.size w wr) (fun y _ => vs.length - (intOf y).toNat)
   case atStart => exact ⟨0, Nat.zero_le _, rfl, ⟨_, hG, hz0⟩, by rw [List.take_zero, Seps, World.size_alloc]; exact Nat.le_refl _, bG⟩
   case round =>
     obtain ⟨j, hj, rfl, ⟨arr, hA, hz⟩, hcp, bB⟩ := hrel
     clear hmk hG bG hnil hz0
     by_cases hlt : j < vs.length
     · have hlt' : (j : Int) < (vs.length : Int) := by omega
       rcases hx with rfl | ⟨g, off, ha, hg, hx⟩
       · exact absurd hlt (Nat.not_lt_zero _)
       injection ha with ha
       subst ha
       obtain ⟨cs8, h8, hh⟩ := Holds.at hx (List.getElem?_eq_getElem hlt)
       have h8' := h8.below hg bB
       have hh' := Hold.below bB vs[j] hh
       have hcall := IH.out vs[j] (List.getElem_mem hlt)
       have hsnoc : vs.take (j + 1) = vs.take j ++ [vs[j]] := List.take_succ_eq_append_getElem hlt
       have htl : (vs.take j).length = j := by rw [List.length_take]; omega
       clear h8 hh
       generalize vs[j] = x at *
       have HSN := Lib.hid hsnoc
       have HCP := Lib.hid hcp
       have HX := Lib.hid hx
       have HTL := Lib.hid htl
       clear hsnoc hcp hx htl
       obtain ⟨k', b', n', s', ks', vs'⟩ := x
       have hh2 := hh'
       rw [Hold] at hh2
       obtain ⟨uk', a', c', rfl, ⟨pk', ck', rfl, -⟩, -, -, -⟩ := hh2
       obtain ⟨d0, d1, d2, d3, d4, d5, d6, d7⟩ := h8'.cells
       have hA2 := World.alloc_heap_new wr (.cells #[.int .i64 k', .bool b', .bool n'.neg, .string (txt n'.dig), .int .i64 n'.exp, .string (txt s'), .slice pk' ks'.length ck', .slice a' vs'.length c'] 29)
       obtain ⟨wB, hwB⟩ : ∃ wB, wr.alloc (.cells #[.int .i64 k', .bool b', .bool n'.neg, .string (txt n'.dig), .int .i64 n'.exp, .string (txt s'), .slice pk' ks'.length ck', .slice a' vs'.length c'] 29) = wB := ⟨_, rfl⟩
       have bC : Below wr.heap.size wr wB := by
         rw [← hwB]
         exact (Below.refl _ wr).alloc (Nat.le_refl _) _
       have zC : wB.heap.size = wr.heap.size + 1 := by rw [← hwB]; simp
       rw [hwB] at hA2
       have HW := Lib.hid hwB
       clear hwB
       obtain ⟨e0, e1, e2, e3, e4, e5, e6, e7⟩ := eight hA2
       have hcall' := hcall wB (.agg #[.int .i64 k', .bool b', .bool n'.neg, .string (txt n'.dig), .int .i64 n'.exp, .string (txt s'), .slice pk' ks'.length ck', .slice a' vs'.length c']) ⟨_, rfl, Hold.below bC _ hh'⟩
       clear hh' h8' hcall
       have HC := Lib.hid hcall'
       clear hcall'
       have hgl := Nat.lt_of_lt_of_le hg bB.size
       have wk : IntKind.i64.wrap ((j : Int) + 1) = (j : Int) + 1 := by simp only [IntKind.wrap, IntKind.signed, IntKind.bits]; simp; omega
       go_wp2_with fail
       rw [HW.out]
       go_wp2_with fail
       refine HC.out.mono ?_
       rintro e w1 ⟨⟨cs, rfl, hsep⟩, k1⟩
       have b1 := (bB.trans (bC.mono bB.size)).trans (k1.mono (Nat.le_trans bB.size bC.size))
       have hlA := lt_of_heap hA
       have hA1 := (k1.block _ (by omega)).trans ((bC.block _ hlA).trans hA)
       obtain ⟨z0, z1, z2, z3, z4, z5, z6, z7, f0, f1, f2, f3, f4, f5, f6, f7⟩ := block8 hA1 (o := j * 8) (by omega)
       have g0 := free_of hA1 (j * 8)
       have g1 := free_of hA1 (j * 8 + 1)
       have g2 := free_of hA1 (j * 8 + 2)
       have g3 := free_of hA1 (j * 8 + 3)
       have g4 := free_of hA1 (j * 8 + 4)
       have g5 := free_of hA1 (j * 8 + 5)
       have g6 := free_of hA1 (j * 8 + 6)
       have g7 := free_of hA1 (j * 8 + 7)
       have hse := hsep
       rw [Sep] at hse
       obtain ⟨uk2, a2, c2, p2, rfl, -, -, ⟨pk2, ck2, rfl, -⟩, -, -, -⟩ := hse
       have HSEP := Lib.hid hsep
       clear hsep d0 d1 d2 d3 d4 d5 d6 d7 e0 e1 e2 e3 e4 e5 e6 e7
       have hlB := k1.size
       have b2 : Below w.heap.size w (put8 w1 w.heap.size (j * 8) (.int .i64 k') (.bool b') (.bool n'.neg) (.string (txt n'.dig)) (.int .i64 n'.exp) (.string (txt s')) (.slice pk2 ks'.length ck2) (.slice a2 vs'.length c2)) := put8_below b1 (Nat.le_refl _) _ _ _ _ _ _ _ _ _
       have fin : ∃ arr' : Array Value, (put8 w1 w.heap.size (j * 8) (.int .i64 k') (.bool b') (.bool n'.neg) (.string (txt n'.dig)) (.int .i64 n'.exp) (.string (txt s')) (.slice pk2 ks'.length ck2) (.slice a2 vs'.length c2)).heap[w.heap.size]? = some (.cells arr' 29 (0, 0)) ∧ arr'.size = vs.length * 8 := by
         obtain ⟨arr', h1, h2⟩ := put8_own hA1 (.int .i64 k') (.bool b') (.bool n'.neg) (.string (txt n'.dig)) (.int .i64 n'.exp) (.string (txt s')) (.slice pk2 ks'.length ck2) (.slice a2 vs'.length c2) (o := j * 8)
         exact ⟨arr', h2, by omega⟩
       have fin2 : Seps (put8 w1 w.heap.size (j * 8) (.int .i64 k') (.bool b') (.bool n'.neg) (.string (txt n'.dig)) (.int .i64 n'.exp) (.string (txt s')) (.slice pk2 ks'.length ck2) (.slice a2 vs'.length c2)) (w.heap.size + 1) (put8 w1 w.heap.size (j * 8) (.int .i64 k') (.bool b') (.bool n'.neg) (.string (txt n'.dig)) (.int .i64 n'.exp) (.string (txt s')) (.slice pk2 ks'.length ck2) (.slice a2 vs'.length c2)).heap.size w.heap.size 0 (vs.take (j + 1)) := by
         rw [HSN.out, put8_size]
         refine Seps.snoc (m := wB.heap.size) ?_ hlB (by rw [HTL.out, Nat.zero_add, Nat.mul_comm]; exact put8_at hA1 (by omega) _ _ _ _ _ _ _ _) ?_
         · refine (Seps.keep (vs.take j) (fun q h1 h2 => (put8_block (by omega) _ _ _ _ _ _ _ _).trans ((k1.block _ (by omega)).trans (bC.block _ h2))) (fun i _ h2 => (put8_cell (by rw [HTL.out] at h2; omega) _ _ _ _ _ _ _ _).trans ?_) HCP.out).mono (by omega)
           unfold World.cell?
           rw [hA1, hA]
         · exact Sep.keep _ (fun q h1 h2 => put8_block (by omega) _ _ _ _ _ _ _ _) HSEP.out
       unfold put8 at fin fin2 b2
       have FIN := Lib.hid fin
       have FIN2 := Lib.hid fin2
       have FIN3 := Lib.hid b2
       clear fin fin2 b2 k1 bC
       unfold cellsV
       go_wp2_with fail
       go_roundw
       case rel => exact ⟨j + 1, by omega, by go_num, FIN.out, FIN2.out, FIN3.out⟩
       case measure => simp [intOf]; omega
     · obtain rfl : j = vs.length := by omega
       rw [List.take_length] at hcp
       have hle := lt_of_heap hA
       go_wp2_with fail
       go_ret
       exact ⟨⟨_, rfl, _, _, rfl, Nat.le_refl _, by omega, .inr ⟨w.heap.size, rfl, Nat.le_refl _, hle, ⟨_, _, hA⟩, hcp⟩⟩, bB⟩
theorem counts_memF {vs : List Val} {x : Val} (h : x ∈ vs) : count x ≤ counts vs := by
 induction vs with
 | nil => cases h
 | cons v r ih =>
   rw [counts]
   rcases List.mem_cons.1 h with rfl | h
   · omega
   · have := ih h
     omega
theorem counts_lenF (vs : List Val) : vs.length ≤ counts vs := by
 induction vs with
 | nil => simp [counts]
 | cons v r ih =>
   rw [counts, List.length_cons]
   have := count_pos v
   omega
theorem sepV_of {w w' : World} {lo hi hi' : Nat} {u : Value} {vs : List Val} (h : SepV w lo hi u vs) (hk : ∀ g, lo ≤ g → g < hi → w'.heap[g]? = w.heap[g]?) (hh : hi ≤ hi') : SepV w' lo hi' u vs := by
 obtain ⟨a, c, hu, h1, h2, h3⟩ := h
 refine ⟨a, c, hu, h1, h2, h3.imp id ?_⟩
 rintro ⟨g, ha, hl, hg, hb, hx⟩
 have e := hk g hl hg
 exact ⟨g, ha, hl, by omega, hb.keep e, (Seps.keep vs (fun q h1' h2' => hk q (by omega) h2') (fun i _ _ => by unfold World.cell?; rw [e]) hx).mono hh⟩
set_option maxRecDepth 100000 in
set_option maxHeartbeats 8000000 in
theorem tcopy_of : ∀ (v : Val), Mild v → count v < 1000000 → ∀ (w : World) (u : Value), HoldV w u v → Calls Tryz.prog 53 #[u] w (Copied v w) := by
 refine ind1 fun v ih hmd hct w u h => ?_
 have hsz := hmd.sizes
 have hkid := hmd.kids
 obtain ⟨k, b, n, s, ks, vs⟩ := v
 have hck : count ⟨k, b, n, s, ks, vs⟩ = 1 + ks.length + counts vs := by rw [count]
 have hlen := counts_lenF vs
 have ih' : ∀ x ∈ vs, ∀ (w : World) (u : Value), HoldV w u x → Calls Tryz.prog 53 #[u] w (Copied x w) := fun x hx => ih x hx (hkid x hx) (by have := counts_memF hx; omega)
 obtain ⟨hs1, hs2, hs3⟩ := hsz
 have hs1 : s.length ≤ 2000 := hs1
 have hs2 : n.dig.length ≤ 1200 := hs2
 have hs3 : ∀ x ∈ ks, x.length ≤ 2000 := hs3
 clear ih hkid hmd
 obtain ⟨cs, rfl, hc⟩ := h
 rw [Hold] at hc
 obtain ⟨uk, a, c, rfl, hk, hv⟩ := hc
 have hv : Kids w a c vs := hv
 have cS := fun wx (hb : Below w.heap.size w wx) => eachS_any (w := wx) (by omega) (fun x hx => by have := hs3 x hx; omega) (hk.below hb)
 have cV := fun wx (hb : Below w.heap.size w wx) => eachV_any (w := wx) (by omega) ih' (hv.below hb)
 obtain ⟨pk, ck, rfl, hck, hmk, -⟩ := hk
 have hv0 := hv.1
 have hv1 := hv.2.1
 clear hv ih' hs3
 show Calls Tryz.prog 53 #[.agg #[.int .i64 k, .bool b, .bool n.neg, .string (txt n.dig), .int .i64 n.exp, .string (txt s), .slice pk ks.length ck, .slice a vs.length c]] w _
 have hA := new_of (World.alloc_heap_new w (.cells #[.int .i64 k, .bool b, .bool n.neg, .string (txt n.dig), .int .i64 n.exp, .string (txt s), .slice pk ks.length ck, .slice a vs.length c] 29)) (.cells #[.int .i64 0, .bool false, .bool false, .string ⟨#[]⟩, .int .i64 0, .string ⟨#[]⟩, .slice none 0 0, .slice none 0 0] 29)
 have hB := World.alloc_heap_new (w.alloc (.cells #[.int .i64 k, .bool b, .bool n.neg, .string (txt n.dig), .int .i64 n.exp, .string (txt s), .slice pk ks.length ck, .slice a vs.length c] 29)) (.cells #[.int .i64 0, .bool false, .bool false, .string ⟨#[]⟩, .int .i64 0, .string ⟨#[]⟩, .slice none 0 0, .slice none 0 0] 29)
 rw [World.size_alloc] at hB
 obtain ⟨w0, hw0⟩ : ∃ w0, (w.alloc (.cells #[.int .i64 k, .bool b, .bool n.neg, .string (txt n.dig), .int .i64 n.exp, .string (txt s), .slice pk ks.length ck, .slice a vs.length c] 29)).alloc (.cells #[.int .i64 0, .bool false, .bool false, .string ⟨#[]⟩, .int .i64 0, .string ⟨#[]⟩, .slice none 0 0, .slice none 0 0] 29) = w0 := ⟨_, rfl⟩
 have b0 : Below w.heap.size w w0 := by
   rw [← hw0]
   exact ((Below.refl _ w).alloc (Nat.le_refl _) _).alloc (by simp) _
 have z0 : w0.heap.size = w.heap.size + 2 := by rw [← hw0]; simp
 rw [hw0] at hA hB
 have HW := Lib.hid hw0
 clear hw0
 have cl1 := clone_any (l := n.dig) (by omega) (w := w0)
 have cl2 := fun wx => clone_any (l := s) (by omega) (w := wx)
 obtain ⟨c0, c1, c2, c3, c4, c5, c6, c7⟩ := eight hA
 have HCS := Lib.hid cS
 have HCV := Lib.hid cV
 have HC2 := Lib.hid cl2
 clear cS cV cl2
 go_enter Tryz.func53, Tryz.ntmps53
 go_wp2_with fail
 rw [HW.out]
 go_wp2_with fail
 refine cl1.mono ?_
 rintro e w1 ⟨rfl, k1⟩
 have b1 := b0.trans (k1.mono b0.size)
 have z1 := k1.size
 have hA1 := (k1.block _ (lt_of_heap hA)).trans hA
 have hB1 := (k1.block _ (lt_of_heap hB)).trans hB
 clear c0 c1 c2 c3 c4 c5 c6 c7 hA hB cl1 b0
 have e3 := cell_of hA1 3
 have f3 := free_of hA1 3
 have hA2 : (w1.setCell ⟨w.heap.size, 3, none⟩ (.string (txt n.dig))).heap[w.heap.size]? = some (.cells #[.int .i64 k, .bool b, .bool n.neg, .string (txt n.dig), .int .i64 n.exp, .string (txt s), .slice pk ks.length ck, .slice a vs.length c] 29 (0, 0)) := by simpa using set_of hA1 3 (.string (txt n.dig))
 have hB2 := (setc_other (W := w1) (g := w.heap.size) (i := 3) (k := w.heap.size + 1) (.string (txt n.dig)) (by omega)).trans hB1
 have b2 := b1.setCell (p := ⟨w.heap.size, 3, none⟩) (Nat.le_refl _) (.string (txt n.dig))
 have z2 : (w1.setCell ⟨w.heap.size, 3, none⟩ (.string (txt n.dig))).heap.size = w1.heap.size := by simp [World.setCell]
 obtain ⟨w2, hw2⟩ : ∃ w2, w1.setCell ⟨w.heap.size, 3, none⟩ (.string (txt n.dig)) = w2 := ⟨_, rfl⟩
 rw [hw2] at hA2 hB2 b2 z2
 obtain ⟨c0, c1, c2, c3, c4, c5, c6, c7⟩ := eight hA2
 go_wp2_with fail
 clear hw2 e3 f3
 refine (HC2.out w2).mono ?_
 rintro e w3 ⟨rfl, k3⟩
 have b3 := b2.trans (k3.mono b2.size)
 have hA3 := (k3.block _ (lt_of_heap hA2)).trans hA2
 have hB3 := (k3.block _ (lt_of_heap hB2)).trans hB2
 have z3 := k3.size
 clear c0 c1 c2 c3 c4 c5 c6 c7 hA1 hB1 hA2 hB2 b1 b2 HC2
 have e5 := cell_of hA3 5
 have f5 := free_of hA3 5
 have hA4 : (w3.setCell ⟨w.heap.size, 5, none⟩ (.string (txt s))).heap[w.heap.size]? = some (.cells #[.int .i64 k, .bool b, .bool n.neg, .string (txt n.dig), .int .i64 n.exp, .string (txt s), .slice pk ks.length ck, .slice a vs.length c] 29 (0, 0)) := by simpa using set_of hA3 5 (.string (txt s))
 have hB4 := (setc_other (W := w3) (g := w.heap.size) (i := 5) (k := w.heap.size + 1) (.string (txt s)) (by omega)).trans hB3
 have b4 := b3.setCell (p := ⟨w.heap.size, 5, none⟩) (Nat.le_refl _) (.string (txt s))
 have z4 : (w3.setCell ⟨w.heap.size, 5, none⟩ (.string (txt s))).heap.size = w3.heap.size := by simp [World.setCell]
 obtain ⟨w4, hw4⟩ : ∃ w4, w3.setCell ⟨w.heap.size, 5, none⟩ (.string (txt s)) = w4 := ⟨_, rfl⟩
 rw [hw4] at hA4 hB4 b4 z4
 obtain ⟨c0, c1, c2, c3, c4, c5, c6, c7⟩ := eight hA4
 go_wp2_with fail
 clear hw4 e5 f5
 refine (HCS.out w4 b4).mono ?_
 rintro e w5 ⟨⟨yk, rfl, hSK⟩, k5⟩
 have b5 := b4.trans (k5.mono b4.size)
 have hA5 := (k5.block _ (lt_of_heap hA4)).trans hA4
 have hB5 := (k5.block _ (lt_of_heap hB4)).trans hB4
 have z5 := k5.size
 have HSK := Lib.hid hSK
 obtain ⟨ak, bk, rfl, -⟩ := hSK
 clear c0 c1 c2 c3 c4 c5 c6 c7 hA3 hB3 hA4 hB4 b3 b4 HCS
 have e6 := cell_of hA5 6
 have f6 := free_of hA5 6
 have hA6 : (w5.setCell ⟨w.heap.size, 6, none⟩ (.slice ak ks.length bk)).heap[w.heap.size]? = some (.cells #[.int .i64 k, .bool b, .bool n.neg, .string (txt n.dig), .int .i64 n.exp, .string (txt s), .slice ak ks.length bk, .slice a vs.length c] 29 (0, 0)) := by simpa using set_of hA5 6 (.slice ak ks.length bk)
 have hO6 := fun q (hq : q ≠ w.heap.size) => setc_other (W := w5) (g := w.heap.size) (i := 6) (k := q) (.slice ak ks.length bk) hq
 have b6 := b5.setCell (p := ⟨w.heap.size, 6, none⟩) (Nat.le_refl _) (.slice ak ks.length bk)
 have z6 : (w5.setCell ⟨w.heap.size, 6, none⟩ (.slice ak ks.length bk)).heap.size = w5.heap.size := by simp [World.setCell]
 obtain ⟨w6, hw6⟩ : ∃ w6, w5.setCell ⟨w.heap.size, 6, none⟩ (.slice ak ks.length bk) = w6 := ⟨_, rfl⟩
 rw [hw6] at hA6 hO6 b6 z6
 have hB6 := (hO6 (w.heap.size + 1) (by omega)).trans hB5
 obtain ⟨c0, c1, c2, c3, c4, c5, c6, c7⟩ := eight hA6
 go_wp2_with fail
 clear hw6 e6 f6
 refine (HCV.out w6 b6).mono ?_
 rintro e w7 ⟨⟨yv, rfl, hSV⟩, k7⟩
 have b7 := b6.trans (k7.mono b6.size)
 have hA7 := (k7.block _ (lt_of_heap hA6)).trans hA6
 have hB7 := (k7.block _ (lt_of_heap hB6)).trans hB6
 have z7 := k7.size
 have HSV := Lib.hid hSV
 obtain ⟨av, bv, rfl, -⟩ := hSV
 clear c0 c1 c2 c3 c4 c5 c6 c7 hA5 hB5 hA6 hB6 b5 b6 HCV
 have e7 := cell_of hA7 7
 have f7 := free_of hA7 7
 have hA8 : (w7.setCell ⟨w.heap.size, 7, none⟩ (.slice av vs.length bv)).heap[w.heap.size]? = some (.cells #[.int .i64 k, .bool b, .bool n.neg, .string (txt n.dig), .int .i64 n.exp, .string (txt s), .slice ak ks.length bk, .slice av vs.length bv] 29 (0, 0)) := by simpa using set_of hA7 7 (.slice av vs.length bv)
 have hO8 := fun q (hq : q ≠ w.heap.size) => setc_other (W := w7) (g := w.heap.size) (i := 7) (k := q) (.slice av vs.length bv) hq
 have b8 := b7.setCell (p := ⟨w.heap.size, 7, none⟩) (Nat.le_refl _) (.slice av vs.length bv)
 have z8 : (w7.setCell ⟨w.heap.size, 7, none⟩ (.slice av vs.length bv)).heap.size = w7.heap.size := by simp [World.setCell]
 obtain ⟨w8, hw8⟩ : ∃ w8, w7.setCell ⟨w.heap.size, 7, none⟩ (.slice av vs.length bv) = w8 := ⟨_, rfl⟩
 rw [hw8] at hA8 hO8 b8 z8
 have hB8 := (hO8 (w.heap.size + 1) (by omega)).trans hB7
 obtain ⟨c0, c1, c2, c3, c4, c5, c6, c7⟩ := eight hA8
 obtain ⟨d0, d1, d2, d3, d4, d5, d6, d7⟩ := eight hB8
 have g0 := free_of hB8 0
 have g1 := free_of hB8 1
 have g2 := free_of hB8 2
 have g3 := free_of hB8 3
 have g4 := free_of hB8 4
 have g5 := free_of hB8 5
 have g6 := free_of hB8 6
 have g7 := free_of hB8 7
 have fin : Copied ⟨k, b, n, s, ks, vs⟩ w (.returned (.agg #[.int .i64 k, .bool b, .bool n.neg, .string (txt n.dig), .int .i64 n.exp, .string (txt s), .slice ak ks.length bk, .slice av vs.length bv])) (put8 w8 (w.heap.size + 1) 0 (.int .i64 k) (.bool b) (.bool n.neg) (.string (txt n.dig)) (.int .i64 n.exp) (.string (txt s)) (.slice ak ks.length bk) (.slice av vs.length bv)) := by
   have hl8 := lt_of_heap hB8
   refine ⟨⟨_, rfl, ?_⟩, put8_below b8 (by omega) _ _ _ _ _ _ _ _ _⟩
   have hK : SepK (put8 w8 (w.heap.size + 1) 0 (.int .i64 k) (.bool b) (.bool n.neg) (.string (txt n.dig)) (.int .i64 n.exp) (.string (txt s)) (.slice ak ks.length bk) (.slice av vs.length bv)) w.heap.size w5.heap.size (.slice ak ks.length bk) ks :=
     (SepK.keep HSK.out fun q h1 h2 => (put8_block (by omega) _ _ _ _ _ _ _ _).trans ((hO8 q (by omega)).trans ((k7.block _ (by omega)).trans (hO6 q (by omega))))).mono (by omega) (Nat.le_refl _)
   have hV := sepV_of (w' := put8 w8 (w.heap.size + 1) 0 (.int .i64 k) (.bool b) (.bool n.neg) (.string (txt n.dig)) (.int .i64 n.exp) (.string (txt s)) (.slice ak ks.length bk) (.slice av vs.length bv)) HSV.out (fun q h1 h2 => (put8_block (by omega) _ _ _ _ _ _ _ _).trans (hO8 q (by omega))) (Nat.le_refl _)
   rw [put8_size, z8, Sep]
   obtain ⟨av', bv', e, h1, h2, h3⟩ := hV
   injection e with e1 e2 e3
   subst e1; subst e3
   exact ⟨_, _, _, w6.heap.size, rfl, by omega, by omega, hK.mono (Nat.le_refl _) (by omega), h1, h2, h3⟩
 unfold put8 at fin
 have FIN := Lib.hid fin
 clear fin
 go_wp2_with fail
 clear hw8
 have h9 := set8_own hB8 (.int .i64 k) (.bool b) (.bool n.neg) (.string (txt n.dig)) (.int .i64 n.exp) (.string (txt s)) (.slice ak ks.length bk) (.slice av vs.length bv)
 obtain ⟨d0, d1, d2, d3, d4, d5, d6, d7⟩ := eight h9
 refine bodyPost_ret (v := .agg #[.int .i64 k, .bool b, .bool n.neg, .string (txt n.dig), .int .i64 n.exp, .string (txt s), .slice ak ks.length bk, .slice av vs.length bv]) (by simp [results, Tryz.results53, go_sem, d0, d1, d2, d3, d4, d5, d6, d7]) rfl ?_
 exact FIN.out
end Go.Proofs.YtlfbnfphocpgeaaGreatDoor.Tre
