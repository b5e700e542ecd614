/- A part of what is_holds leans on (its texts, put together). Nothing is claimed here. -/
import Derived.Test.YtlfbnfphocpgeaaGreatDoorIs14
namespace Go.Proofs.YtlfbnfphocpgeaaGreatDoor.Jenc
open Go.RowKit Kit Txt
open Tre (Val Whole Wholes HoldV Hold Holds At8 count sort)
mutual
theorem prt_flat : ∀ (v : Val) (d : Nat), prt false d v = prt false 0 v
 | ⟨k, i, n, s, ks, vs⟩, d => by
   rw [prt, prt, prts_flat vs (d + 1) (decide (k = 6)) true ks, prts_flat vs (0 + 1) (decide (k = 6)) true ks]
   rfl
theorem prts_flat : ∀ (vs : List Val) (d : Nat) (obj first : Bool) (ks : List (List UInt8)), prts false d obj first ks vs = prts false 0 obj first ks vs
 | [], _, _, _, _ => rfl
 | v :: r, d, obj, first, ks => by
   rw [prts, prts, prt_flat v d, prts_flat r d]
   rfl
end
theorem siz_mem {x : Val} : ∀ {vs : List Val}, x ∈ vs → siz 30 x ≤ sizs 30 vs
 | [], h => by cases h
 | y :: r, h => by
   rw [sizs]
   rcases List.mem_cons.1 h with rfl | h
   · omega
   · have := siz_mem h
     omega
theorem prts_step (obj first : Bool) (ks : List (List UInt8)) (v : Val) (r : List Val) : prts false 0 obj first ks (v :: r) = (if first then [] else [44]) ++ ((if obj then Quo.print (ks.headD []) ++ [58] else []) ++ (prt false 0 v ++ prts false 0 obj false ks.tail r)) := by
 rw [prts]
 cases obj <;> rfl
theorem prt_many {k : Int} {b : Bool} {n : Num.Dec} {s : List UInt8} {ks : List (List UInt8)} {vs : List Val} {obj : Bool} (h : k = if obj then 6 else 5) : prt false 0 ⟨k, b, n, s, ks, vs⟩ = opener obj :: prts false 0 obj true ks vs ++ [Jdec.close obj] := by
 have h6 : decide (k = 6) = obj := by subst h; cases obj <;> rfl
 have h5 : k = 5 ∨ k = 6 := by subst h; cases obj <;> simp
 rw [prt, if_neg (by omega), if_neg (by omega), if_neg (by omega), if_neg (by omega), h6, prts_flat vs (0 + 1)]
 have e : (if vs.isEmpty = true then [] else brk false 0) = ([] : List UInt8) := by split <;> rfl
 rw [e]
 rfl
theorem rline_any {w : World} {d : Int} : Calls Tryz.prog 72 #[.bool false, .int .i64 d] w fun e w' => e = .returned (.string ⟨#[]⟩) ∧ w' = w := by
 go_enter Tryz.func72, Tryz.ntmps72
 go_wp2_with fail
 go_ret
 exact ⟨rfl, rfl⟩
set_option maxRecDepth 100000 in
set_option maxHeartbeats 4000000 in
theorem r10_list {b : Bool} {n : Num.Dec} {s : List UInt8} {ks : List (List UInt8)} {vs : List Val} (hlen : True) {T : List UInt8} (hT : opener false :: prts false 0 false true ks vs = T) (hTl : T.length ≤ 200000) (hkl : ∀ x ∈ ks, x.length ≤ 40000) {d : Int} (hd0 : 0 ≤ d) (hd1 : d ≤ 1000000)
   (ih : ∀ x ∈ vs, ∀ (w : World) (u : Value), HoldV w u x → Calls Tryz.prog 49 #[u, .bool false, .int .i64 (d + 1)] w fun e w' => e = .returned (.string (txt (prt false 0 x))) ∧ Below w.heap.size w w')
   {w : World} {u : Value} (h : HoldV w u ⟨5, b, n, s, ks, vs⟩) : Calls Tryz.prog 49 #[u, .bool false, .int .i64 d] w fun e w' => e = .returned (.string (txt (T ++ [Jdec.close false]))) ∧ Below w.heap.size w w' := by
 obtain ⟨cs, rfl, hc⟩ := h
 rw [Hold] at hc
 obtain ⟨uk, a, c, rfl, hk, hcap, hmax, hv⟩ := hc
 obtain ⟨pk, ck, rfl, -, hkm, hkx⟩ := hk
 show Calls Tryz.prog 49 #[.agg #[.int .i64 5, .bool b, .bool n.neg, .string (txt n.dig), .int .i64 n.exp, .string (txt s), .slice pk ks.length ck, .slice a vs.length c], .bool false, .int .i64 d] w _
 have hA := World.alloc_heap_new w (.cells #[.int .i64 5, .bool b, .bool n.neg, .string (txt n.dig), .int .i64 n.exp, .string (txt s), .slice pk ks.length ck, .slice a vs.length c] 29)
 have bA : Below w.heap.size w (w.alloc (.cells #[.int .i64 5, .bool b, .bool n.neg, .string (txt n.dig), .int .i64 n.exp, .string (txt s), .slice pk ks.length ck, .slice a vs.length c] 29)) := (Below.refl _ w).alloc (Nat.le_refl _) _
 have hwd : IntKind.i64.wrap (d + 1) = d + 1 := by simp only [IntKind.wrap, IntKind.signed, IntKind.bits]; simp; omega
 have HL := Lib.hid fun (wx : World) (x : Int) => rline_any (w := wx) (d := x)
 have HIH := Lib.hid ih
 have HT := Lib.hid hT
 have HA := Lib.hid hA
 have HB := Lib.hid bA
 have HX := Lib.hid hv
 have HK := Lib.hid hkx
 have HKL := Lib.hid hkl
 have HLN := Lib.hid hlen
 clear ih hT hA bA hv hkx hkl hlen
 go_enter Tryz.func49, Tryz.ntmps49
 obtain ⟨c0, c1, c2, c3, c4, c5, c6, c7⟩ := Tre.eight HA.out
 go_wp2_with fail
 clear c0 c1 c2 c3 c4 c5 c6 c7
 go_loopw [7, 8] (fun y z wr => ∃ (i : Nat) (out : List UInt8), y = .string (txt out) ∧ z = .int .i64 i ∧ i ≤ vs.length ∧ out ++ prts false 0 false (decide (i = 0)) (ks.drop i) (vs.drop i) = T ∧ wr.heap[w.heap.size]? = some (.cells #[.int .i64 5, .bool b, .bool n.neg, .string (txt n.dig), .int .i64 n.exp, .string (txt s), .slice pk ks.length ck, .slice a vs.length c] 29 (0, 0)) ∧ Below w.heap.size w wr) (fun _ z _ => vs.length - (intOf z).toNat)
 case atStart => exact ⟨0, [opener false], rfl, rfl, Nat.zero_le _, by simpa using HT.out, HA.out, HB.out⟩
 case round =>
   obtain ⟨i, out, rfl, rfl, hi, heq, hAr, hb⟩ := hrel
   clear HA HB HT
   obtain ⟨c0, c1, c2, c3, c4, c5, c6, c7⟩ := Tre.eight hAr
   have hAl := lt_of_heap hAr
   by_cases hlt : i < vs.length
   · have hlt' : (i : Int) < (vs.length : Int) := by omega
     have hwi : IntKind.i64.wrap ((i : Int) + 1) = (i : Int) + 1 := by simp only [IntKind.wrap, IntKind.signed, IntKind.bits]; simp; omega
     rcases HX.out with h0 | ⟨g, off, rfl, hg, hx⟩
     · subst h0
       exact absurd hlt (Nat.not_lt_zero _)
     obtain ⟨cx, hx8, hxx⟩ := Holds.at hx (List.getElem?_eq_getElem hlt)
     have hxr := hx8.below hg hb
     have hxh := Hold.below hb vs[i] hxx
     have hcall := HIH.out vs[i] (List.getElem_mem hlt)
     have hdr : vs.drop i = vs[i] :: vs.drop (i + 1) := List.drop_eq_getElem_cons hlt
     have htl : (ks.drop i).tail = ks.drop (i + 1) := List.tail_drop
     rw [hdr, prts_step, htl] at heq
     have hgr := Nat.lt_of_lt_of_le hg hb.size
     generalize vs[i] = x at *
     obtain ⟨R, hR⟩ : ∃ R, prts false 0 false false (ks.drop (i + 1)) (vs.drop (i + 1)) = R := ⟨_, rfl⟩
     rw [hR] at heq
     have HR := Lib.hid hR
     clear hxx hx8 hdr hx hR htl
     obtain ⟨k', b', n', s', ks', vs'⟩ := x
     have hh2 := hxh
     rw [Hold] at hh2
     obtain ⟨uk', a', c', rfl, ⟨pk', ck', rfl, -⟩, -, -, -⟩ := hh2
     obtain ⟨d0, d1, d2, d3, d4, d5, d6, d7⟩ := hxr.cells
     have HCALL := Lib.hid fun (wx : World) (k : Below wr.heap.size wr wx) => hcall wx _ ⟨_, rfl, Hold.below k _ hxh⟩
     clear hcall hxh hxr
     generalize prt false 0 ⟨k', b', n', s', ks', vs'⟩ = px at *
     have hlenT := congrArg List.length heq
     rw [List.length_append, List.length_append, List.length_append, List.length_append] at hlenT
     by_cases hi0 : i = 0
     · have hd0 : decide (0 < i) = false := decide_eq_false (by omega)
       have hd1 : decide ((0 : Int) < (i : Int)) = false := decide_eq_false (by omega)
       have hd2 : ¬ (0 : Int) < (i : Int) := by omega
       have hdi : decide (i = 0) = true := decide_eq_true hi0
       rw [hdi] at heq hlenT
       simp at hlenT
       have f2 : ¬ (9223372036854775807 < (txt out).size) := by have := txt_size out; omega
       have g2 : txt out ++ ⟨#[]⟩ = txt out := (add_txt out []).trans (by rw [List.append_nil])
       have g5 := add_txt out px
       have f5 : ¬ (9223372036854775807 < (txt out).size + (txt px).size) := add_fit (by omega) (by omega)
       have HE := Lib.hid (show (out ++ px) ++ R = T by rw [← heq]; simp)
       have HAR := Lib.hid hAr
       have HBR := Lib.hid hb
       clear heq hlenT hAr hb hi0
       go_wp2_with fail
       refine (HL.out _ _).mono ?_
       rintro e wx ⟨rfl, rfl⟩
       go_wp2_with fail
       refine (HCALL.out _ (Below.refl _ _)).mono ?_
       rintro e wz ⟨rfl, kz⟩
       have hAz := (kz.block _ (lt_of_heap HAR.out)).trans HAR.out
       have hbz := HBR.out.trans (kz.mono HBR.out.size)
       have HAZ := Lib.hid hAz
       have HBZ := Lib.hid hbz
       clear kz hAz hbz
       go_wp2_with fail
       go_roundw
       case rel => exact ⟨i + 1, _, rfl, by go_num, by omega, by rw [show decide (i + 1 = 0) = false from decide_eq_false (by omega), HR.out]; exact HE.out, HAZ.out, HBZ.out⟩
       case measure => simp [intOf]; omega
     · have hd0 : decide (0 < i) = true := decide_eq_true (by omega)
       have hd1 : decide ((0 : Int) < (i : Int)) = true := decide_eq_true (by omega)
       have hd2 : (0 : Int) < (i : Int) := by omega
       have hdi : decide (i = 0) = false := decide_eq_false hi0
       rw [hdi] at heq hlenT
       simp at hlenT
       obtain ⟨T1, h1⟩ : ∃ T, out ++ [44] = T := ⟨_, rfl⟩
       have n1 := congrArg List.length h1
       rw [List.length_append] at n1
       simp only [List.length_cons, List.length_nil] at n1
       obtain ⟨f1, g1⟩ := add_lit (a := out) (b := [44]) (s := ⟨#[44]⟩) rfl h1 (by omega) (by simp)
       have f1b : ¬ (9223372036854775807 < (txt out).size + 1) := by have := txt_size out; omega
       have f2 : ¬ (9223372036854775807 < (txt T1).size) := by have := txt_size T1; omega
       have g2 : txt T1 ++ ⟨#[]⟩ = txt T1 := (add_txt T1 []).trans (by rw [List.append_nil])
       have g5 := add_txt T1 px
       have f5 : ¬ (9223372036854775807 < (txt T1).size + (txt px).size) := add_fit (by omega) (by omega)
       have HE := Lib.hid (show (T1 ++ px) ++ R = T by rw [← heq, ← h1]; simp)
       have HAR := Lib.hid hAr
       have HBR := Lib.hid hb
       clear heq hlenT hAr hb hi0 h1
       go_wp2_with fail
       refine (HL.out _ _).mono ?_
       rintro e wx ⟨rfl, rfl⟩
       go_wp2_with fail
       refine (HCALL.out _ (Below.refl _ _)).mono ?_
       rintro e wz ⟨rfl, kz⟩
       have hAz := (kz.block _ (lt_of_heap HAR.out)).trans HAR.out
       have hbz := HBR.out.trans (kz.mono HBR.out.size)
       have HAZ := Lib.hid hAz
       have HBZ := Lib.hid hbz
       clear kz hAz hbz
       go_wp2_with fail
       go_roundw
       case rel => exact ⟨i + 1, _, rfl, by go_num, by omega, by rw [show decide (i + 1 = 0) = false from decide_eq_false (by omega), HR.out]; exact HE.out, HAZ.out, HBZ.out⟩
       case measure => simp [intOf]; omega
   · obtain rfl : i = vs.length := by omega
     have he : vs.drop vs.length = [] := List.drop_length
     rw [he, prts, List.append_nil] at heq
     subst heq
     obtain ⟨f1, g1⟩ := add_lit (a := out) (b := [Jdec.close false]) (s := ⟨#[93]⟩) rfl rfl (by omega) (by simp)
     have f1b : ¬ (9223372036854775807 < (txt out).size + 1) := by have := txt_size out; omega
     have f2 : ¬ (9223372036854775807 < (txt out).size) := by have := txt_size out; omega
     have g2 : txt out ++ ⟨#[]⟩ = txt out := (add_txt out []).trans (by rw [List.append_nil])
     have HBR := Lib.hid hb
     clear hb
     by_cases hn : vs.length = 0
     · have hd1 : decide ((0 : Int) < (vs.length : Int)) = false := decide_eq_false (by omega)
       have hd2 : ¬ (0 : Int) < (vs.length : Int) := by omega
       go_wp2_with fail
       go_ret
       exact ⟨rfl, HBR.out⟩
     · have hd1 : decide ((0 : Int) < (vs.length : Int)) = true := decide_eq_true (by omega)
       have hd2 : (0 : Int) < (vs.length : Int) := by omega
       go_wp2_with fail
       refine (HL.out _ _).mono ?_
       rintro e wx ⟨rfl, rfl⟩
       go_wp2_with fail
       go_ret
       exact ⟨rfl, HBR.out⟩
set_option maxRecDepth 100000 in
set_option maxHeartbeats 4000000 in
theorem r10_obj {b : Bool} {n : Num.Dec} {s : List UInt8} {ks : List (List UInt8)} {vs : List Val} (hlen : ks.length = vs.length) {T : List UInt8} (hT : opener true :: prts false 0 true true ks vs = T) (hTl : T.length ≤ 200000) (hkl : ∀ x ∈ ks, x.length ≤ 40000) {d : Int} (hd0 : 0 ≤ d) (hd1 : d ≤ 1000000)
   (ih : ∀ x ∈ vs, ∀ (w : World) (u : Value), HoldV w u x → Calls Tryz.prog 49 #[u, .bool false, .int .i64 (d + 1)] w fun e w' => e = .returned (.string (txt (prt false 0 x))) ∧ Below w.heap.size w w')
   {w : World} {u : Value} (h : HoldV w u ⟨6, b, n, s, ks, vs⟩) : Calls Tryz.prog 49 #[u, .bool false, .int .i64 d] w fun e w' => e = .returned (.string (txt (T ++ [Jdec.close true]))) ∧ Below w.heap.size w w' := by
 obtain ⟨cs, rfl, hc⟩ := h
 rw [Hold] at hc
 obtain ⟨uk, a, c, rfl, hk, hcap, hmax, hv⟩ := hc
 obtain ⟨pk, ck, rfl, -, hkm, hkx⟩ := hk
 show Calls Tryz.prog 49 #[.agg #[.int .i64 6, .bool b, .bool n.neg, .string (txt n.dig), .int .i64 n.exp, .string (txt s), .slice pk ks.length ck, .slice a vs.length c], .bool false, .int .i64 d] w _
 have hA := World.alloc_heap_new w (.cells #[.int .i64 6, .bool b, .bool n.neg, .string (txt n.dig), .int .i64 n.exp, .string (txt s), .slice pk ks.length ck, .slice a vs.length c] 29)
 have bA : Below w.heap.size w (w.alloc (.cells #[.int .i64 6, .bool b, .bool n.neg, .string (txt n.dig), .int .i64 n.exp, .string (txt s), .slice pk ks.length ck, .slice a vs.length c] 29)) := (Below.refl _ w).alloc (Nat.le_refl _) _
 have hwd : IntKind.i64.wrap (d + 1) = d + 1 := by simp only [IntKind.wrap, IntKind.signed, IntKind.bits]; simp; omega
 have HL := Lib.hid fun (wx : World) (x : Int) => rline_any (w := wx) (d := x)
 have HIH := Lib.hid ih
 have HT := Lib.hid hT
 have HA := Lib.hid hA
 have HB := Lib.hid bA
 have HX := Lib.hid hv
 have HK := Lib.hid hkx
 have HKL := Lib.hid hkl
 have HLN := Lib.hid hlen
 clear ih hT hA bA hv hkx hkl hlen
 go_enter Tryz.func49, Tryz.ntmps49
 obtain ⟨c0, c1, c2, c3, c4, c5, c6, c7⟩ := Tre.eight HA.out
 go_wp2_with fail
 clear c0 c1 c2 c3 c4 c5 c6 c7
 go_loopw [7, 8] (fun y z wr => ∃ (i : Nat) (out : List UInt8), y = .string (txt out) ∧ z = .int .i64 i ∧ i ≤ vs.length ∧ out ++ prts false 0 true (decide (i = 0)) (ks.drop i) (vs.drop i) = T ∧ wr.heap[w.heap.size]? = some (.cells #[.int .i64 6, .bool b, .bool n.neg, .string (txt n.dig), .int .i64 n.exp, .string (txt s), .slice pk ks.length ck, .slice a vs.length c] 29 (0, 0)) ∧ Below w.heap.size w wr) (fun _ z _ => vs.length - (intOf z).toNat)
 case atStart => exact ⟨0, [opener true], rfl, rfl, Nat.zero_le _, by simpa using HT.out, HA.out, HB.out⟩
 case round =>
   obtain ⟨i, out, rfl, rfl, hi, heq, hAr, hb⟩ := hrel
   clear HA HB HT
   obtain ⟨c0, c1, c2, c3, c4, c5, c6, c7⟩ := Tre.eight hAr
   have hAl := lt_of_heap hAr
   by_cases hlt : i < vs.length
   · have hlt' : (i : Int) < (vs.length : Int) := by omega
     have hwi : IntKind.i64.wrap ((i : Int) + 1) = (i : Int) + 1 := by simp only [IntKind.wrap, IntKind.signed, IntKind.bits]; simp; omega
     rcases HX.out with h0 | ⟨g, off, rfl, hg, hx⟩
     · subst h0
       exact absurd hlt (Nat.not_lt_zero _)
     obtain ⟨cx, hx8, hxx⟩ := Holds.at hx (List.getElem?_eq_getElem hlt)
     have hxr := hx8.below hg hb
     have hxh := Hold.below hb vs[i] hxx
     have hcall := HIH.out vs[i] (List.getElem_mem hlt)
     have hdr : vs.drop i = vs[i] :: vs.drop (i + 1) := List.drop_eq_getElem_cons hlt
     have htl : (ks.drop i).tail = ks.drop (i + 1) := List.tail_drop
     rw [hdr, prts_step, htl] at heq
     have hgr := Nat.lt_of_lt_of_le hg hb.size
     generalize vs[i] = x at *
     obtain ⟨R, hR⟩ : ∃ R, prts false 0 true false (ks.drop (i + 1)) (vs.drop (i + 1)) = R := ⟨_, rfl⟩
     rw [hR] at heq
     have HR := Lib.hid hR
     clear hxx hx8 hdr hx hR htl
     obtain ⟨k', b', n', s', ks', vs'⟩ := x
     have hh2 := hxh
     rw [Hold] at hh2
     obtain ⟨uk', a', c', rfl, ⟨pk', ck', rfl, -⟩, -, -, -⟩ := hh2
     obtain ⟨d0, d1, d2, d3, d4, d5, d6, d7⟩ := hxr.cells
     have HCALL := Lib.hid fun (wx : World) (k : Below wr.heap.size wr wx) => hcall wx _ ⟨_, rfl, Hold.below k _ hxh⟩
     clear hcall hxh hxr
     generalize prt false 0 ⟨k', b', n', s', ks', vs'⟩ = px at *
     have hlenT := congrArg List.length heq
     rw [List.length_append, List.length_append, List.length_append, List.length_append] at hlenT
     have hik : i < ks.length := by rw [HLN.out]; exact hlt
     have hik' : (i : Int) < (ks.length : Int) := by omega
     obtain ⟨gk, ok, rfl, hgkw, hkx⟩ : ∃ g off, pk = some ⟨g, off, none⟩ ∧ g < w.heap.size ∧ ∀ (i : Nat) (l : List UInt8), ks[i]? = some l → w.cell? ⟨g, off + i, none⟩ = some (.string (txt l)) := by
       rcases HK.out with h0 | h0
       · subst h0; exact absurd hik (Nat.not_lt_zero _)
       · exact h0
     have hkey := hkx i ks[i] (List.getElem?_eq_getElem hik)
     have hkh : (ks.drop i).headD [] = ks[i] := by rw [List.drop_eq_getElem_cons hik]; rfl
     have hkl2 := HKL.out ks[i] (List.getElem_mem hik)
     rw [hkh] at heq hlenT
     generalize ks[i] = kk at *
     have hkc : wr.cell? ⟨gk, ok + i, none⟩ = some (.string (txt kk)) := (hb.cell (p := ⟨gk, ok + i, none⟩) hgkw).trans hkey
     have hgkl := Nat.lt_of_lt_of_le hgkw hb.size
     have HQ := Lib.hid fun (wx : World) => Quo.rprint_any (w := wx) (l := kk) (by omega)
     generalize Quo.print kk = pkk at *
     clear hkx hkh hkl2 hkey
     by_cases hi0 : i = 0
     · have hd0 : decide (0 < i) = false := decide_eq_false (by omega)
       have hd1 : decide ((0 : Int) < (i : Int)) = false := decide_eq_false (by omega)
       have hd2 : ¬ (0 : Int) < (i : Int) := by omega
       have hdi : decide (i = 0) = true := decide_eq_true hi0
       rw [hdi] at heq hlenT
       simp at hlenT
       have f2 : ¬ (9223372036854775807 < (txt out).size) := by have := txt_size out; omega
       have g2 : txt out ++ ⟨#[]⟩ = txt out := (add_txt out []).trans (by rw [List.append_nil])
       obtain ⟨T2, h2⟩ : ∃ T, out ++ pkk = T := ⟨_, rfl⟩
       have n2 := congrArg List.length h2
       rw [List.length_append] at n2
       have g3 := add_txt out pkk
       rw [h2] at g3
       have f3 : ¬ (9223372036854775807 < (txt out).size + (txt pkk).size) := add_fit (by omega) (by omega)
       obtain ⟨T3, h3⟩ : ∃ T, T2 ++ [58] = T := ⟨_, rfl⟩
       have n3 := congrArg List.length h3
       rw [List.length_append] at n3
       simp only [List.length_cons, List.length_nil] at n3
       obtain ⟨f4, g4⟩ := add_lit (a := T2) (b := [58]) (s := ⟨#[58]⟩) rfl h3 (by omega) (by simp)
       have f4b : ¬ (9223372036854775807 < (txt T2).size + 1) := by have := txt_size T2; omega
       have g5 := add_txt T3 px
       have f5 : ¬ (9223372036854775807 < (txt T3).size + (txt px).size) := add_fit (by omega) (by omega)
       have HE := Lib.hid (show (T3 ++ px) ++ R = T by rw [← heq, ← h3, ← h2]; simp)
       have HAR := Lib.hid hAr
       have HBR := Lib.hid hb
       clear heq hlenT hAr hb hi0 h2 h3
       go_wp2_with fail
       refine (HL.out _ _).mono ?_
       rintro e wx ⟨rfl, rfl⟩
       go_wp2_with fail
       refine (HQ.out _).mono ?_
       rintro e wq ⟨rfl, kq⟩
       have hAq := (kq.block _ hAl).trans HAR.out
       have b0 := (kq.cell (p := ⟨g, off + i * 8, none⟩) hgr).trans d0
       have b1 := (kq.cell (p := ⟨g, off + i * 8 + 1, none⟩) hgr).trans d1
       have b2 := (kq.cell (p := ⟨g, off + i * 8 + 2, none⟩) hgr).trans d2
       have b3 := (kq.cell (p := ⟨g, off + i * 8 + 3, none⟩) hgr).trans d3
       have b4 := (kq.cell (p := ⟨g, off + i * 8 + 4, none⟩) hgr).trans d4
       have b5 := (kq.cell (p := ⟨g, off + i * 8 + 5, none⟩) hgr).trans d5
       have b6 := (kq.cell (p := ⟨g, off + i * 8 + 6, none⟩) hgr).trans d6
       have b7 := (kq.cell (p := ⟨g, off + i * 8 + 7, none⟩) hgr).trans d7
       clear c0 c1 c2 c3 c4 c5 c6 c7 d0 d1 d2 d3 d4 d5 d6 d7
       obtain ⟨c0, c1, c2, c3, c4, c5, c6, c7⟩ := Tre.eight hAq
       have hAql := lt_of_heap hAq
       have hgq := Nat.lt_of_lt_of_le hgr kq.size
       have HC2 := Lib.hid (HCALL.out _ kq)
       have HAQ := Lib.hid hAq
       have HBQ := Lib.hid (HBR.out.trans (kq.mono HBR.out.size))
       clear kq hAq
       go_wp2_with fail
       refine HC2.out.mono ?_
       rintro e wz ⟨rfl, kz⟩
       have hAz := (kz.block _ (lt_of_heap HAQ.out)).trans HAQ.out
       have hbz := HBQ.out.trans (kz.mono HBQ.out.size)
       have HAZ := Lib.hid hAz
       have HBZ := Lib.hid hbz
       clear kz hAz hbz
       go_wp2_with fail
       go_roundw
       case rel => exact ⟨i + 1, _, rfl, by go_num, by omega, by rw [show decide (i + 1 = 0) = false from decide_eq_false (by omega), HR.out]; exact HE.out, HAZ.out, HBZ.out⟩
       case measure => simp [intOf]; omega
     · have hd0 : decide (0 < i) = true := decide_eq_true (by omega)
       have hd1 : decide ((0 : Int) < (i : Int)) = true := decide_eq_true (by omega)
       have hd2 : (0 : Int) < (i : Int) := by omega
       have hdi : decide (i = 0) = false := decide_eq_false hi0
       rw [hdi] at heq hlenT
       simp at hlenT
       obtain ⟨T1, h1⟩ : ∃ T, out ++ [44] = T := ⟨_, rfl⟩
       have n1 := congrArg List.length h1
       rw [List.length_append] at n1
       simp only [List.length_cons, List.length_nil] at n1
       obtain ⟨f1, g1⟩ := add_lit (a := out) (b := [44]) (s := ⟨#[44]⟩) rfl h1 (by omega) (by simp)
       have f1b : ¬ (9223372036854775807 < (txt out).size + 1) := by have := txt_size out; omega
       have f2 : ¬ (9223372036854775807 < (txt T1).size) := by have := txt_size T1; omega
       have g2 : txt T1 ++ ⟨#[]⟩ = txt T1 := (add_txt T1 []).trans (by rw [List.append_nil])
       obtain ⟨T2, h2⟩ : ∃ T, T1 ++ pkk = T := ⟨_, rfl⟩
       have n2 := congrArg List.length h2
       rw [List.length_append] at n2
       have g3 := add_txt T1 pkk
       rw [h2] at g3
       have f3 : ¬ (9223372036854775807 < (txt T1).size + (txt pkk).size) := add_fit (by omega) (by omega)
       obtain ⟨T3, h3⟩ : ∃ T, T2 ++ [58] = T := ⟨_, rfl⟩
       have n3 := congrArg List.length h3
       rw [List.length_append] at n3
       simp only [List.length_cons, List.length_nil] at n3
       obtain ⟨f4, g4⟩ := add_lit (a := T2) (b := [58]) (s := ⟨#[58]⟩) rfl h3 (by omega) (by simp)
       have f4b : ¬ (9223372036854775807 < (txt T2).size + 1) := by have := txt_size T2; omega
       have g5 := add_txt T3 px
       have f5 : ¬ (9223372036854775807 < (txt T3).size + (txt px).size) := add_fit (by omega) (by omega)
       have HE := Lib.hid (show (T3 ++ px) ++ R = T by rw [← heq, ← h3, ← h2, ← h1]; simp)
       have HAR := Lib.hid hAr
       have HBR := Lib.hid hb
       clear heq hlenT hAr hb hi0 h1 h2 h3
       go_wp2_with fail
       refine (HL.out _ _).mono ?_
       rintro e wx ⟨rfl, rfl⟩
       go_wp2_with fail
       refine (HQ.out _).mono ?_
       rintro e wq ⟨rfl, kq⟩
       have hAq := (kq.block _ hAl).trans HAR.out
       have b0 := (kq.cell (p := ⟨g, off + i * 8, none⟩) hgr).trans d0
       have b1 := (kq.cell (p := ⟨g, off + i * 8 + 1, none⟩) hgr).trans d1
       have b2 := (kq.cell (p := ⟨g, off + i * 8 + 2, none⟩) hgr).trans d2
       have b3 := (kq.cell (p := ⟨g, off + i * 8 + 3, none⟩) hgr).trans d3
       have b4 := (kq.cell (p := ⟨g, off + i * 8 + 4, none⟩) hgr).trans d4
       have b5 := (kq.cell (p := ⟨g, off + i * 8 + 5, none⟩) hgr).trans d5
       have b6 := (kq.cell (p := ⟨g, off + i * 8 + 6, none⟩) hgr).trans d6
       have b7 := (kq.cell (p := ⟨g, off + i * 8 + 7, none⟩) hgr).trans d7
       clear c0 c1 c2 c3 c4 c5 c6 c7 d0 d1 d2 d3 d4 d5 d6 d7
       obtain ⟨c0, c1, c2, c3, c4, c5, c6, c7⟩ := Tre.eight hAq
       have hAql := lt_of_heap hAq
       have hgq := Nat.lt_of_lt_of_le hgr kq.size
       have HC2 := Lib.hid (HCALL.out _ kq)
       have HAQ := Lib.hid hAq
       have HBQ := Lib.hid (HBR.out.trans (kq.mono HBR.out.size))
       clear kq hAq
       go_wp2_with fail
       refine HC2.out.mono ?_
       rintro e wz ⟨rfl, kz⟩
       have hAz := (kz.block _ (lt_of_heap HAQ.out)).trans HAQ.out
       have hbz := HBQ.out.trans (kz.mono HBQ.out.size)
       have HAZ := Lib.hid hAz
       have HBZ := Lib.hid hbz
       clear kz hAz hbz
       go_wp2_with fail
       go_roundw
       case rel => exact ⟨i + 1, _, rfl, by go_num, by omega, by rw [show decide (i + 1 = 0) = false from decide_eq_false (by omega), HR.out]; exact HE.out, HAZ.out, HBZ.out⟩
       case measure => simp [intOf]; omega
   · obtain rfl : i = vs.length := by omega
     have he : vs.drop vs.length = [] := List.drop_length
     rw [he, prts, List.append_nil] at heq
     subst heq
     obtain ⟨f1, g1⟩ := add_lit (a := out) (b := [Jdec.close true]) (s := ⟨#[125]⟩) rfl rfl (by omega) (by simp)
     have f1b : ¬ (9223372036854775807 < (txt out).size + 1) := by have := txt_size out; omega
     have f2 : ¬ (9223372036854775807 < (txt out).size) := by have := txt_size out; omega
     have g2 : txt out ++ ⟨#[]⟩ = txt out := (add_txt out []).trans (by rw [List.append_nil])
     have HBR := Lib.hid hb
     clear hb
     by_cases hn : vs.length = 0
     · have hd1 : decide ((0 : Int) < (vs.length : Int)) = false := decide_eq_false (by omega)
       have hd2 : ¬ (0 : Int) < (vs.length : Int) := by omega
       go_wp2_with fail
       go_ret
       exact ⟨rfl, HBR.out⟩
     · have hd1 : decide ((0 : Int) < (vs.length : Int)) = true := decide_eq_true (by omega)
       have hd2 : (0 : Int) < (vs.length : Int) := by omega
       go_wp2_with fail
       refine (HL.out _ _).mono ?_
       rintro e wx ⟨rfl, rfl⟩
       go_wp2_with fail
       go_ret
       exact ⟨rfl, HBR.out⟩
set_option maxRecDepth 100000 in
theorem r10_leaf1 {b : Bool} {n : Num.Dec} {s : List UInt8} {ks : List (List UInt8)} {vs : List Val}  {d : Int} {w : World} {u : Value} (h : HoldV w u ⟨1, b, n, s, ks, vs⟩) : Calls Tryz.prog 49 #[u, .bool false, .int .i64 d] w fun e w' => e = .returned (.string (txt [110, 117, 108, 108])) ∧ Below w.heap.size w w' := by
 obtain ⟨cs, rfl, hc⟩ := h
 rw [Hold] at hc
 obtain ⟨uk, a, c, rfl, hk, hcap, hmax, hv⟩ := hc
 show Calls Tryz.prog 49 #[.agg #[.int .i64 1, .bool b, .bool n.neg, .string (txt n.dig), .int .i64 n.exp, .string (txt s), uk, .slice a vs.length c], .bool false, .int .i64 d] w _
 have hA := World.alloc_heap_new w (.cells #[.int .i64 1, .bool b, .bool n.neg, .string (txt n.dig), .int .i64 n.exp, .string (txt s), uk, .slice a vs.length c] 29)
 have bA : Below w.heap.size w (w.alloc (.cells #[.int .i64 1, .bool b, .bool n.neg, .string (txt n.dig), .int .i64 n.exp, .string (txt s), uk, .slice a vs.length c] 29)) := (Below.refl _ w).alloc (Nat.le_refl _) _
 obtain ⟨c0, c1, c2, c3, c4, c5, c6, c7⟩ := Tre.eight hA
 have HB := Lib.hid bA
 clear bA hA
 go_enter Tryz.func49, Tryz.ntmps49
 go_wp2_with fail
 go_ret
 exact ⟨rfl, HB.out⟩
set_option maxRecDepth 100000 in
theorem r10_leaf2 {b : Bool} {n : Num.Dec} {s : List UInt8} {ks : List (List UInt8)} {vs : List Val}  {d : Int} {w : World} {u : Value} (h : HoldV w u ⟨2, b, n, s, ks, vs⟩) : Calls Tryz.prog 49 #[u, .bool false, .int .i64 d] w fun e w' => e = .returned (.string (txt (if b then [116, 114, 117, 101] else [102, 97, 108, 115, 101]))) ∧ Below w.heap.size w w' := by
 obtain ⟨cs, rfl, hc⟩ := h
 rw [Hold] at hc
 obtain ⟨uk, a, c, rfl, hk, hcap, hmax, hv⟩ := hc
 show Calls Tryz.prog 49 #[.agg #[.int .i64 2, .bool b, .bool n.neg, .string (txt n.dig), .int .i64 n.exp, .string (txt s), uk, .slice a vs.length c], .bool false, .int .i64 d] w _
 have hA := World.alloc_heap_new w (.cells #[.int .i64 2, .bool b, .bool n.neg, .string (txt n.dig), .int .i64 n.exp, .string (txt s), uk, .slice a vs.length c] 29)
 have bA : Below w.heap.size w (w.alloc (.cells #[.int .i64 2, .bool b, .bool n.neg, .string (txt n.dig), .int .i64 n.exp, .string (txt s), uk, .slice a vs.length c] 29)) := (Below.refl _ w).alloc (Nat.le_refl _) _
 obtain ⟨c0, c1, c2, c3, c4, c5, c6, c7⟩ := Tre.eight hA
 have HB := Lib.hid bA
 clear bA hA
 cases b with
 | true =>
   go_enter Tryz.func49, Tryz.ntmps49
   go_wp2_with fail
   go_ret
   exact ⟨rfl, HB.out⟩
 | false =>
   go_enter Tryz.func49, Tryz.ntmps49
   go_wp2_with fail
   go_ret
   exact ⟨rfl, HB.out⟩
set_option maxRecDepth 100000 in
theorem r10_leaf3 {b : Bool} {n : Num.Dec} {s : List UInt8} {ks : List (List UInt8)} {vs : List Val} (hl : n.dig.length < 1000000000) {d : Int} {w : World} {u : Value} (h : HoldV w u ⟨3, b, n, s, ks, vs⟩) : Calls Tryz.prog 49 #[u, .bool false, .int .i64 d] w fun e w' => e = .returned (.string (txt (Num.print n))) ∧ Below w.heap.size w w' := by
 obtain ⟨cs, rfl, hc⟩ := h
 rw [Hold] at hc
 obtain ⟨uk, a, c, rfl, hk, hcap, hmax, hv⟩ := hc
 show Calls Tryz.prog 49 #[.agg #[.int .i64 3, .bool b, .bool n.neg, .string (txt n.dig), .int .i64 n.exp, .string (txt s), uk, .slice a vs.length c], .bool false, .int .i64 d] w _
 have hA := World.alloc_heap_new w (.cells #[.int .i64 3, .bool b, .bool n.neg, .string (txt n.dig), .int .i64 n.exp, .string (txt s), uk, .slice a vs.length c] 29)
 have bA : Below w.heap.size w (w.alloc (.cells #[.int .i64 3, .bool b, .bool n.neg, .string (txt n.dig), .int .i64 n.exp, .string (txt s), uk, .slice a vs.length c] 29)) := (Below.refl _ w).alloc (Nat.le_refl _) _
 obtain ⟨c0, c1, c2, c3, c4, c5, c6, c7⟩ := Tre.eight hA
 have HB := Lib.hid bA
 clear bA hA
 have HP := Lib.hid fun (wx : World) => Num.rprint_any (w := wx) (n := n) hl
 unfold Num.numV at HP
 go_enter Tryz.func49, Tryz.ntmps49
 go_wp2_with fail
 refine (HP.out _).mono ?_
 rintro e w1 ⟨rfl, k1⟩
 have HB1 := Lib.hid (HB.out.trans (k1.mono HB.out.size))
 clear k1 c0 c1 c2 c3 c4 c5 c6 c7
 go_wp2_with fail
 go_ret
 exact ⟨rfl, HB1.out⟩
set_option maxRecDepth 100000 in
theorem r10_leaf4 {b : Bool} {n : Num.Dec} {s : List UInt8} {ks : List (List UInt8)} {vs : List Val} (hl : s.length < 1000000) {d : Int} {w : World} {u : Value} (h : HoldV w u ⟨4, b, n, s, ks, vs⟩) : Calls Tryz.prog 49 #[u, .bool false, .int .i64 d] w fun e w' => e = .returned (.string (txt (Quo.print s))) ∧ Below w.heap.size w w' := by
 obtain ⟨cs, rfl, hc⟩ := h
 rw [Hold] at hc
 obtain ⟨uk, a, c, rfl, hk, hcap, hmax, hv⟩ := hc
 show Calls Tryz.prog 49 #[.agg #[.int .i64 4, .bool b, .bool n.neg, .string (txt n.dig), .int .i64 n.exp, .string (txt s), uk, .slice a vs.length c], .bool false, .int .i64 d] w _
 have hA := World.alloc_heap_new w (.cells #[.int .i64 4, .bool b, .bool n.neg, .string (txt n.dig), .int .i64 n.exp, .string (txt s), uk, .slice a vs.length c] 29)
 have bA : Below w.heap.size w (w.alloc (.cells #[.int .i64 4, .bool b, .bool n.neg, .string (txt n.dig), .int .i64 n.exp, .string (txt s), uk, .slice a vs.length c] 29)) := (Below.refl _ w).alloc (Nat.le_refl _) _
 obtain ⟨c0, c1, c2, c3, c4, c5, c6, c7⟩ := Tre.eight hA
 have HB := Lib.hid bA
 clear bA hA
 have HP := Lib.hid fun (wx : World) => Quo.rprint_any (w := wx) (l := s) hl
 skip
 go_enter Tryz.func49, Tryz.ntmps49
 go_wp2_with fail
 refine (HP.out _).mono ?_
 rintro e w1 ⟨rfl, k1⟩
 have HB1 := Lib.hid (HB.out.trans (k1.mono HB.out.size))
 clear k1 c0 c1 c2 c3 c4 c5 c6 c7
 go_wp2_with fail
 go_ret
 exact ⟨rfl, HB1.out⟩
theorem r10print_any : ∀ (v : Val) (w : World) (u : Value) (d : Int), Whole v → siz 30 v ≤ 200000 → 0 ≤ d → d + siz 30 v ≤ 1000000 → HoldV w u v → Calls Tryz.prog 49 #[u, .bool false, .int .i64 d] w fun e w' => e = .returned (.string (txt (prt false 0 v))) ∧ Below w.heap.size w w' := by
 refine Tre.ind1 fun v ih w u d hw hs hd0 hd h => ?_
 have hl := narrow_len v 0 hw
 have hwk := Tre.whole_iff.1 hw
 obtain ⟨k, b, n, s, ks, vs⟩ := v
 have ho := hwk.1
 unfold Tre.Own at ho
 rw [siz] at hs hd
 have ih' : ∀ x ∈ vs, ∀ (w : World) (u : Value), HoldV w u x → Calls Tryz.prog 49 #[u, .bool false, .int .i64 (d + 1)] w fun e w' => e = .returned (.string (txt (prt false 0 x))) ∧ Below w.heap.size w w' := fun x hx w u h => by
   have := siz_mem hx
   exact ih x hx w u (d + 1) (hwk.2 x hx) (by omega) (by omega) (by omega) h
 have hkl : ∀ x ∈ ks, x.length ≤ 40000 := fun x hx => by have := Jdec.klen_mem hx; omega
 rw [siz] at hl
 by_cases k1 : k = 1
 · subst k1
   rw [prt, if_pos rfl]
   exact r10_leaf1 h
 by_cases k2 : k = 2
 · subst k2
   rw [prt, if_neg (by decide), if_pos rfl]
   exact r10_leaf2 h
 by_cases k3 : k = 3
 · subst k3
   rw [prt, if_neg (by decide), if_neg (by decide), if_pos rfl]
   exact r10_leaf3 (by omega) h
 by_cases k4 : k = 4
 · subst k4
   rw [prt, if_neg (by decide), if_neg (by decide), if_neg (by decide), if_pos rfl]
   exact r10_leaf4 (by omega) h
 by_cases k5 : k = 5
 · subst k5
   have e := prt_many (b := b) (n := n) (s := s) (ks := ks) (vs := vs) (obj := false) (k := 5) rfl
   rw [e] at hl ⊢
   rw [List.length_append] at hl
   exact r10_list trivial rfl (by omega) hkl hd0 (by omega) ih' h
 · have o1 : (1 : Int) ≤ k := ho.1
   have o2 : k ≤ 6 := ho.2.1
   obtain rfl : k = 6 := by omega
   have e := prt_many (b := b) (n := n) (s := s) (ks := ks) (vs := vs) (obj := true) (k := 6) rfl
   rw [e] at hl ⊢
   have hT : (opener true :: prts false 0 true true ks vs).length ≤ 200000 := by
     simp only [List.length_append, List.length_cons, List.length_nil] at hl ⊢
     omega
   exact r10_obj (ho.2.2.2.2.2.2.2.2.2.1 rfl) rfl hT hkl hd0 (by omega) ih' h
set_option maxRecDepth 100000 in
theorem r10canon_any {v : Val} {w : World} {u : Value} (hw : Whole v) (hs : siz 30 v ≤ 200000) (hc : count v < 1000000) (h : HoldV w u v) : Calls Tryz.prog 28 #[u] w fun e w' => e = .returned (.string (txt (prt false 0 (sort v)))) ∧ Below w.heap.size w w' := by
 obtain ⟨pk, ck, a, c, rfl⟩ := Tre.holdV_form h
 have hA := World.alloc_heap_new w (.cells #[.int .i64 v.kind, .bool v.is, .bool v.num.neg, .string (txt v.num.dig), .int .i64 v.num.exp, .string (txt v.str), .slice pk v.keys.length ck, .slice a v.kids.length c] 29)
 have bA : Below w.heap.size w (w.alloc (.cells #[.int .i64 v.kind, .bool v.is, .bool v.num.neg, .string (txt v.num.dig), .int .i64 v.num.exp, .string (txt v.str), .slice pk v.keys.length ck, .slice a v.kids.length c] 29)) := (Below.refl _ w).alloc (Nat.le_refl _) _
 have hso := Tre.rsort_any v _ _ hw hc (h.below bA)
 have hpr := fun (wx : World) (y : Value) (hy : HoldV wx y (sort v)) => r10print_any (sort v) wx y 0 (Tre.sort_whole v hw) (by rw [siz_sort 30 v hw]; exact hs) (by omega) (by rw [siz_sort 30 v hw]; omega) hy
 generalize prt false 0 (sort v) = out at *
 generalize v.keys.length = lk at *
 generalize v.kids.length = lv at *
 generalize v.is = vi at *
 generalize v.num = vn at *
 generalize v.str = vs at *
 generalize v.kind = k at *
 obtain ⟨c0, c1, c2, c3, c4, c5, c6, c7⟩ := Tre.eight hA
 have HSO := Lib.hid hso
 have HPR := Lib.hid hpr
 have HB := Lib.hid bA
 clear hso hpr bA hA h
 go_enter Tryz.func28, Tryz.ntmps28
 go_wp2_with fail
 refine HSO.out.mono ?_
 rintro e w1 ⟨⟨y, rfl, hy⟩, k1⟩
 have HP2 := Lib.hid (HPR.out w1 y hy.hold)
 have HB1 := Lib.hid (HB.out.trans (k1.mono HB.out.size))
 clear hy k1 c0 c1 c2 c3 c4 c5 c6 c7
 go_wp2_with fail
 refine HP2.out.mono ?_
 rintro e w2 ⟨rfl, k2⟩
 have b2 := HB1.out.trans (k2.mono HB1.out.size)
 clear k2
 go_wp2_with fail
 go_ret
 exact ⟨rfl, b2⟩
end Go.Proofs.YtlfbnfphocpgeaaGreatDoor.Jenc
