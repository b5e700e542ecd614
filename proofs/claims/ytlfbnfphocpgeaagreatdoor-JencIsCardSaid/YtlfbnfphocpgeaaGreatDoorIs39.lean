/- A part of what is_holds leans on (its texts, put together). Nothing is claimed here. -/
import Derived.Test.YtlfbnfphocpgeaaGreatDoorIs37
import Derived.Test.YtlfbnfphocpgeaaGreatDoorIs38
namespace Go.Proofs.YtlfbnfphocpgeaaGreatDoor.Jdec
open Go.RowKit Kit Txt
open Utf (nb)
def TellE {α : Type} (C : Value → α → Prop) (n : Nat) (g : Got α) (e : Ending) : Prop :=
 ∃ (k0 : Int) (b0 b1 : Bool) (d : ByteArray) (x0 : Int) (t : ByteArray) (a1 : Option Addr) (n1 m1 : Nat) (a2 : Option Addr) (n2 m2 : Nat) (a p k : Int), e = .returned (.agg #[.int .i64 k0, .bool b0, .bool b1, .string d, .int .i64 x0, .string t, .slice a1 n1 m1, .slice a2 n2 m2, .int .i64 a, .int .i64 p, .int .i64 k]) ∧
   ((∃ x r, g = .ok x r ∧ a = ((n - r.length : Nat) : Int) ∧ k = 0 ∧ C (.agg #[.int .i64 k0, .bool b0, .bool b1, .string d, .int .i64 x0, .string t, .slice a1 n1 m1, .slice a2 n2 m2]) x) ∨ ((∃ r j, g = .no r j) ∧ k ≠ 0))
theorem TellE.bad {α : Type} {C : Value → α → Prop} {n j : Nat} {g : Got α} {r : List UInt8} (h : g = .no r j) {p k : Int} (hk : k ≠ 0) : TellE C n g (.returned (badV p k)) := ⟨_, _, _, _, _, _, _, _, _, _, _, _, _, _, _, rfl, .inr ⟨⟨r, j, h⟩, hk⟩⟩
theorem TellE.good {α : Type} {C : Value → α → Prop} {n : Nat} {g : Got α} {x : α} {r : List UInt8} (h : g = .ok x r) {k0 : Int} {b0 b1 : Bool} {d : ByteArray} {x0 : Int} {t : ByteArray} {a1 : Option Addr} {n1 m1 : Nat} {a2 : Option Addr} {n2 m2 : Nat} {a p : Int} (ha : a = ((n - r.length : Nat) : Int)) (hC : C (.agg #[.int .i64 k0, .bool b0, .bool b1, .string d, .int .i64 x0, .string t, .slice a1 n1 m1, .slice a2 n2 m2]) x) :
   TellE C n g (.returned (.agg #[.int .i64 k0, .bool b0, .bool b1, .string d, .int .i64 x0, .string t, .slice a1 n1 m1, .slice a2 n2 m2, .int .i64 a, .int .i64 p, .int .i64 0])) := ⟨_, _, _, _, _, _, _, _, _, _, _, _, _, _, _, rfl, .inl ⟨x, r, h, ha, rfl, hC⟩⟩
theorem hold_flat {B : Nat} {w : World} (k : Int) (i : Bool) (n : Num.Dec) (s : List UInt8) : Tre.HoldF B w (.agg #[.int .i64 k, .bool i, .bool n.neg, .string (txt n.dig), .int .i64 n.exp, .string (txt s), .slice none 0 0, .slice none 0 0]) ⟨k, i, n, s, [], []⟩ := ⟨_, rfl, by
 rw [Tre.HoldP]
 exact ⟨_, none, 0, rfl, ⟨none, 0, rfl, Nat.le_refl _, by omega, .inl rfl⟩, Nat.le_refl _, by omega, .inl rfl⟩⟩
theorem wordR_end (v : Tre.Val) {W l : List UInt8} {i q : Nat} (h : W.length ≤ i) : word v (W.drop i) (l.drop q) = .ok v (l.drop q) := by
 rw [List.drop_eq_nil_of_le h, word]
theorem word_short (v : Tre.Val) {W l : List UInt8} {i q : Nat} (h : i < W.length) (hq : l.length ≤ q) : word v (W.drop i) (l.drop q) = .no (l.drop q) 2 := by
 rw [List.drop_eq_getElem_cons h, List.drop_eq_nil_of_le hq, word]
theorem word_on (v : Tre.Val) {W l : List UInt8} {i q : Nat} (h : i < W.length) (hq : q < l.length) : word v (W.drop i) (l.drop q) = if nb l q = nb W i then word v (W.drop (i + 1)) (l.drop (q + 1)) else .no (l.drop q) 3 := by
 rw [nb_get h, nb_get hq, List.drop_eq_getElem_cons h, List.drop_eq_getElem_cons hq, word]
 have e : (l[q] = W[i] ↔ l[q].toNat = W[i].toNat) := ⟨fun e => by rw [e], fun e => UInt8.toNat_inj.1 e⟩
 simp only [e]
set_option maxRecDepth 100000 in
set_option maxHeartbeats 1500000 in
theorem rnumber_tells {w : World} {l : List UInt8} {q : Nat} (hl : l.length < 100000) (hq : q ≤ l.length) :
   Calls Tryz.prog 36 #[.string (txt l), .int .i64 q] w fun e w' => TellE (Tre.HoldF w.heap.size w') l.length (number (l.drop q)) e ∧ Below w.heap.size w w' := by
 have hs := txt_size l
 have hsl := slL (l := l) (z := (q : Int)) (k := q) rfl hq
 have hdl : (l.drop q).length = l.length - q := List.length_drop
 have hsm := fun (n : Nat) (hn : q + n ≤ l.length) => slM (l := l) (y := (q : Int)) (z := (q : Int) + (n : Int)) (i := q) (j := q + n) rfl (by omega) (by omega) hn
 have hnl := num_le (l.drop q)
 have hsc := fun (wx : World) => Num.scan_any (w := wx) (l := l.drop q) (by omega)
 have hpa := fun (wx : World) => Num.rparse_any (w := wx) (l := (l.drop q).take (Num.scan (l.drop q))) (by rw [List.length_take]; omega)
 have hb := fun (wx : World) (x : Int) => rbad_any (w := wx) (p := q) (e := x)
 simp only [badV] at hb
 have hnum : number (l.drop q) = if Num.scan (l.drop q) = 0 then (if (l.drop q).length = 1 then .no (l.drop q) 2 else .no (l.drop q) 3)
     else if (Num.parse ((l.drop q).take (Num.scan (l.drop q)))).2 ≠ 0 then .no (l.drop q) (Num.parse ((l.drop q).take (Num.scan (l.drop q)))).2
     else .ok ⟨3, false, (Num.parse ((l.drop q).take (Num.scan (l.drop q)))).1, [], [], []⟩ ((l.drop q).drop (Num.scan (l.drop q))) := rfl
 have hA := World.alloc_heap_new w (.cells #[.int .i64 0, .bool false, .bool false, .string ⟨#[]⟩, .int .i64 0, .string ⟨#[]⟩, .slice none 0 0, .slice none 0 0, .int .i64 0, .int .i64 0, .int .i64 0] 31)
 have bA : Below w.heap.size w (w.alloc (.cells #[.int .i64 0, .bool false, .bool false, .string ⟨#[]⟩, .int .i64 0, .string ⟨#[]⟩, .slice none 0 0, .slice none 0 0, .int .i64 0, .int .i64 0, .int .i64 0] 31)) := (Below.refl _ w).alloc (Nat.le_refl _) _
 have hq1 : IntKind.i64.wrap ((q : Int) + 1) = (q : Int) + 1 := by simp only [IntKind.wrap, IntKind.signed, IntKind.bits]; simp; omega
 have hdd : ((l.drop q).drop (Num.scan (l.drop q))).length = l.length - q - Num.scan (l.drop q) := by rw [List.length_drop, hdl]
 generalize number (l.drop q) = gg at *
 generalize (l.drop q).drop (Num.scan (l.drop q)) = rr at *
 have hse : ∀ n, (q + n - q) = n := fun n => by omega
 by_cases h0 : Num.scan (l.drop q) = 0
 · rw [if_pos h0] at hnum
   rw [h0] at hsc
   have HN := Lib.hid hnum
   have HDL := Lib.hid hdl
   clear hnum hsm hpa hnl hdd hdl
   generalize l.drop q = t at *
   by_cases h1 : q + 1 = l.length
   · have d1 : ((q : Int) + 1 == (l.length : Int)) = true := by simp; omega
     have fin : ∀ (C : Value → Tre.Val → Prop) (p : Int), TellE C l.length gg (.returned (badV p 2)) := fun C p => .bad (r := t) (j := 2) (by rw [HN.out, if_pos (by rw [HDL.out]; omega)]) (by decide)
     have HF := Lib.hid fin
     clear fin
     go_enter Tryz.func36, Tryz.ntmps36
     go_wp2_with fail
     refine (hsc _).mono ?_
     rintro e w1 ⟨rfl, rfl⟩
     go_wp2_with fail
     refine (hb _ 2).mono ?_
     rintro e w2 ⟨rfl, k2⟩
     have hA2 := (k2.block _ (lt_of_heap hA)).trans hA
     have b2 := bA.trans (k2.mono bA.size)
     have h9 := set11 hA2 (.int .i64 0) (.bool false) (.bool false) (.string ⟨#[]⟩) (.int .i64 0) (.string ⟨#[]⟩) (.slice none 0 0) (.slice none 0 0) (.int .i64 0) (.int .i64 q) (.int .i64 2)
     have b9 := below11 b2 (Nat.le_refl _) (.int .i64 0) (.bool false) (.bool false) (.string ⟨#[]⟩) (.int .i64 0) (.string ⟨#[]⟩) (.slice none 0 0) (.slice none 0 0) (.int .i64 0) (.int .i64 q) (.int .i64 2)
     obtain ⟨d0, d1, d2, d3, d4, d5, d6, d7, d8, d9, d10⟩ := eleven h9
     obtain ⟨c0, c1, c2, c3, c4, c5, c6, c7, c8, c9, c10⟩ := eleven hA2
     have qf := free_of hA2
     clear h9 hA hA2
     go_wp2_with fail
     refine bodyPost_ret (v := badV q 2) (by simp [results, Tryz.results36, go_sem, badV, d0, d1, d2, d3, d4, d5, d6, d7, d8, d9, d10]) rfl ⟨HF.out _ _, b9⟩
   · have d1 : ((q : Int) + 1 == (l.length : Int)) = false := by simp; omega
     have fin : ∀ (C : Value → Tre.Val → Prop) (p : Int), TellE C l.length gg (.returned (badV p 3)) := fun C p => .bad (r := t) (j := 3) (by rw [HN.out, if_neg (by rw [HDL.out]; omega)]) (by decide)
     have HF := Lib.hid fin
     clear fin
     go_enter Tryz.func36, Tryz.ntmps36
     go_wp2_with fail
     refine (hsc _).mono ?_
     rintro e w1 ⟨rfl, rfl⟩
     go_wp2_with fail
     refine (hb _ 3).mono ?_
     rintro e w2 ⟨rfl, k2⟩
     have hA2 := (k2.block _ (lt_of_heap hA)).trans hA
     have b2 := bA.trans (k2.mono bA.size)
     have h9 := set11 hA2 (.int .i64 0) (.bool false) (.bool false) (.string ⟨#[]⟩) (.int .i64 0) (.string ⟨#[]⟩) (.slice none 0 0) (.slice none 0 0) (.int .i64 0) (.int .i64 q) (.int .i64 3)
     have b9 := below11 b2 (Nat.le_refl _) (.int .i64 0) (.bool false) (.bool false) (.string ⟨#[]⟩) (.int .i64 0) (.string ⟨#[]⟩) (.slice none 0 0) (.slice none 0 0) (.int .i64 0) (.int .i64 q) (.int .i64 3)
     obtain ⟨d0, d1, d2, d3, d4, d5, d6, d7, d8, d9, d10⟩ := eleven h9
     obtain ⟨c0, c1, c2, c3, c4, c5, c6, c7, c8, c9, c10⟩ := eleven hA2
     have qf := free_of hA2
     clear h9 hA hA2
     go_wp2_with fail
     refine bodyPost_ret (v := badV q 3) (by simp [results, Tryz.results36, go_sem, badV, d0, d1, d2, d3, d4, d5, d6, d7, d8, d9, d10]) rfl ⟨HF.out _ _, b9⟩
 · rw [if_neg h0] at hnum
   have hsm := hsm (Num.scan (l.drop q)) (by omega)
   rw [hse] at hsm
   generalize hn : Num.scan (l.drop q) = n at *
   have hn0 : ((n : Int) == 0) = false := by simp; omega
   have hqn : IntKind.i64.wrap ((q : Int) + (n : Int)) = (q : Int) + (n : Int) := by simp only [IntKind.wrap, IntKind.signed, IntKind.bits]; simp; omega
   have hqn2 : (q : Int) + (n : Int) = ((l.length - rr.length : Nat) : Int) := by rw [hdd]; omega
   generalize (l.drop q).take n = tn at *
   generalize l.drop q = t at *
   unfold Num.parseV Num.numV at hpa
   generalize (Num.parse tn) = pr at *
   obtain ⟨d, k⟩ := pr
   dsimp only at hnum hpa
   obtain ⟨td, htd⟩ : ∃ td, Num.txt d.dig = td := ⟨_, rfl⟩
   simp only [htd] at hpa
   have HTD := Lib.hid htd
   clear htd
   have hAx := fun (c : Value) => hA
   by_cases hk : k = 0
   · rw [if_neg (by simpa using hk)] at hnum
     subst hk
     have HN := Lib.hid hnum
     have HQ := Lib.hid hqn2
     clear hnum hqn2 hdd hdl hnl hn hAx
     go_enter Tryz.func36, Tryz.ntmps36
     go_wp2_with fail
     refine (hsc _).mono ?_
     rintro e w1 ⟨rfl, rfl⟩
     go_wp2_with fail
     refine (hpa _).mono ?_
     rintro e w2 ⟨rfl, k2⟩
     have hA2 := new_of ((k2.block _ (lt_of_heap hA)).trans hA) (.cells #[.bool d.neg, .string td, .int .i64 d.exp] 25)
     have b2 := (bA.trans (k2.mono bA.size)).alloc (bA.trans (k2.mono bA.size)).size (.cells #[.bool d.neg, .string td, .int .i64 d.exp] 25)
     have hN := World.alloc_heap_new w2 (.cells #[.bool d.neg, .string td, .int .i64 d.exp] 25)
     have hwl := lt_of_heap ((k2.block _ (lt_of_heap hA)).trans hA)
     have HA2 := Lib.hid hA2
     have HB2 := Lib.hid b2
     have HN2 := Lib.hid hN
     clear hA hA2 hN k2 b2 bA
     go_upto_region 7 with fail
     obtain ⟨W, hW⟩ : ∃ W, w2.alloc (.cells #[.bool d.neg, .string td, .int .i64 d.exp] 25) = W := ⟨_, rfl⟩
     have hA2 := HA2.out
     have hN := HN2.out
     have b2 := HB2.out
     clear HA2 HN2 HB2
     rw [hW] at hA2 hN b2
     rw [hW]
     clear hW
     obtain ⟨n0, n1, n2⟩ := three hN
     have h9 := set11 hA2 (.int .i64 3) (.bool false) (.bool d.neg) (.string td) (.int .i64 d.exp) (.string ⟨#[]⟩) (.slice none 0 0) (.slice none 0 0) (.int .i64 ((q : Int) + (n : Int))) (.int .i64 0) (.int .i64 0)
     have b9 := below11 b2 (Nat.le_refl _) (.int .i64 3) (.bool false) (.bool d.neg) (.string td) (.int .i64 d.exp) (.string ⟨#[]⟩) (.slice none 0 0) (.slice none 0 0) (.int .i64 ((q : Int) + (n : Int))) (.int .i64 0) (.int .i64 0)
     obtain ⟨d0, d1, d2, d3, d4, d5, d6, d7, d8, d9, d10⟩ := eleven h9
     obtain ⟨c0, c1, c2, c3, c4, c5, c6, c7, c8, c9, c10⟩ := eleven hA2
     have qf := free_of hA2
     clear h9 hA2 hN b2
     go_wp2_with fail
     refine bodyPost_ret (v := .agg #[.int .i64 3, .bool false, .bool d.neg, .string td, .int .i64 d.exp, .string ⟨#[]⟩, .slice none 0 0, .slice none 0 0, .int .i64 ((q : Int) + (n : Int)), .int .i64 0, .int .i64 0]) (by simp [results, Tryz.results36, go_sem, d0, d1, d2, d3, d4, d5, d6, d7, d8, d9, d10]) rfl ⟨.good HN.out HQ.out (by rw [← HTD.out]; exact hold_flat 3 false d []), b9⟩
   · rw [if_pos (by simpa using hk)] at hnum
     have hk1 : (((k : Nat) : Int) != 0) = true := by simp; omega
     have fin : ∀ (C : Value → Tre.Val → Prop) (p : Int), TellE C l.length gg (.returned (badV p k)) := fun C p => .bad hnum (by omega)
     have HF := Lib.hid fin
     clear hnum hqn2 hdd hdl hnl hn hAx fin
     go_enter Tryz.func36, Tryz.ntmps36
     go_wp2_with fail
     refine (hsc _).mono ?_
     rintro e w1 ⟨rfl, rfl⟩
     go_wp2_with fail
     refine (hpa _).mono ?_
     rintro e w2 ⟨rfl, k2⟩
     have hA2 := new_of ((k2.block _ (lt_of_heap hA)).trans hA) (.cells #[.bool d.neg, .string td, .int .i64 d.exp] 25)
     have b2 := (bA.trans (k2.mono bA.size)).alloc (bA.trans (k2.mono bA.size)).size (.cells #[.bool d.neg, .string td, .int .i64 d.exp] 25)
     have hwl := lt_of_heap ((k2.block _ (lt_of_heap hA)).trans hA)
     have HA2 := Lib.hid hA2
     have HB2 := Lib.hid b2
     clear hA hA2 k2 b2 bA
     go_upto_region 7 with fail
     obtain ⟨W, hW⟩ : ∃ W, w2.alloc (.cells #[.bool d.neg, .string td, .int .i64 d.exp] 25) = W := ⟨_, rfl⟩
     have hA2 := HA2.out
     have b2 := HB2.out
     clear HA2 HB2
     rw [hW] at hA2 b2
     rw [hW]
     clear hW
     go_wp2_with fail
     refine (hb _ k).mono ?_
     rintro e w3 ⟨rfl, k3⟩
     have hA3 := (k3.block _ (lt_of_heap hA2)).trans hA2
     have b3 := b2.trans (k3.mono b2.size)
     have h9 := set11 hA3 (.int .i64 0) (.bool false) (.bool false) (.string ⟨#[]⟩) (.int .i64 0) (.string ⟨#[]⟩) (.slice none 0 0) (.slice none 0 0) (.int .i64 0) (.int .i64 q) (.int .i64 k)
     have b9 := below11 b3 (Nat.le_refl _) (.int .i64 0) (.bool false) (.bool false) (.string ⟨#[]⟩) (.int .i64 0) (.string ⟨#[]⟩) (.slice none 0 0) (.slice none 0 0) (.int .i64 0) (.int .i64 q) (.int .i64 k)
     obtain ⟨d0, d1, d2, d3, d4, d5, d6, d7, d8, d9, d10⟩ := eleven h9
     obtain ⟨c0, c1, c2, c3, c4, c5, c6, c7, c8, c9, c10⟩ := eleven hA3
     have qf := free_of hA3
     clear h9 hA2 hA3 k3 b3 b2
     go_wp2_with fail
     refine bodyPost_ret (v := badV q k) (by simp [results, Tryz.results36, go_sem, badV, d0, d1, d2, d3, d4, d5, d6, d7, d8, d9, d10]) rfl ⟨HF.out _ _, b9⟩
end Go.Proofs.YtlfbnfphocpgeaaGreatDoor.Jdec
namespace Go.Proofs.YtlfbnfphocpgeaaGreatDoor.Jdec
open Go.RowKit Kit Txt
open Utf (nb)
set_option maxRecDepth 100000 in
set_option maxHeartbeats 2000000 in
theorem rword_tells {w : World} {l W : List UInt8} {q : Nat} {k0 : Int} {bl bm : Bool} {d : ByteArray} {x0 : Int} {t : ByteArray} {a1 : Option Addr} {n1 m1 : Nat} {a2 : Option Addr} {n2 m2 : Nat} (v : Tre.Val) (hC : ∀ wx : World, Tre.HoldF w.heap.size wx (.agg #[.int .i64 k0, .bool bl, .bool bm, .string d, .int .i64 x0, .string t, .slice a1 n1 m1, .slice a2 n2 m2]) v) (hl : l.length < 100000) (hW : W.length ≤ 10) (hq : q ≤ l.length) :
   Calls Tryz.prog 37 #[.string (txt l), .int .i64 q, .string (txt W), .agg #[.int .i64 k0, .bool bl, .bool bm, .string d, .int .i64 x0, .string t, .slice a1 n1 m1, .slice a2 n2 m2]] w fun e w' => TellE (Tre.HoldF w.heap.size w') l.length (word v W (l.drop q)) e ∧ Below w.heap.size w w' := by
 have hs := txt_size l
 have hs2 := txt_size W
 have HCC := Lib.hid hC
 clear hC
 go_enter Tryz.func37, Tryz.ntmps37
 go_wp2_with fail
 have hA0 := new_of (World.alloc_heap_new w (.cells #[.int .i64 k0, .bool bl, .bool bm, .string d, .int .i64 x0, .string t, .slice a1 n1 m1, .slice a2 n2 m2] 29)) (.cells #[.int .i64 0, .bool false, .bool false, .string ⟨#[]⟩, .int .i64 0, .string ⟨#[]⟩, .slice none 0 0, .slice none 0 0, .int .i64 0, .int .i64 0, .int .i64 0] 31)
 have hB0 := World.alloc_heap_new (w.alloc (.cells #[.int .i64 k0, .bool bl, .bool bm, .string d, .int .i64 x0, .string t, .slice a1 n1 m1, .slice a2 n2 m2] 29)) (.cells #[.int .i64 0, .bool false, .bool false, .string ⟨#[]⟩, .int .i64 0, .string ⟨#[]⟩, .slice none 0 0, .slice none 0 0, .int .i64 0, .int .i64 0, .int .i64 0] 31)
 rw [World.size_alloc] at hB0
 have b0 := ((Below.refl _ w).alloc (Nat.le_refl _) (.cells #[.int .i64 k0, .bool bl, .bool bm, .string d, .int .i64 x0, .string t, .slice a1 n1 m1, .slice a2 n2 m2] 29)).alloc (by simp) (.cells #[.int .i64 0, .bool false, .bool false, .string ⟨#[]⟩, .int .i64 0, .string ⟨#[]⟩, .slice none 0 0, .slice none 0 0, .int .i64 0, .int .i64 0, .int .i64 0] 31)
 go_loopw [9] (fun a wr => ∃ i : Nat, a = .int .i64 i ∧ i ≤ W.length ∧ q + i ≤ l.length ∧ word v W (l.drop q) = word v (W.drop i) (l.drop (q + i)) ∧ wr.heap[w.heap.size]? = some (.cells #[.int .i64 k0, .bool bl, .bool bm, .string d, .int .i64 x0, .string t, .slice a1 n1 m1, .slice a2 n2 m2] 29 (0, 0)) ∧ wr.heap[w.heap.size + 1]? = some (.cells #[.int .i64 0, .bool false, .bool false, .string ⟨#[]⟩, .int .i64 0, .string ⟨#[]⟩, .slice none 0 0, .slice none 0 0, .int .i64 0, .int .i64 0, .int .i64 0] 31 (0, 0)) ∧ Below w.heap.size w wr) (fun a _ => W.length - (intOf a).toNat)
 case atStart => exact ⟨0, rfl, by omega, by omega, rfl, hA0, hB0, b0⟩
 case round =>
   clear hA0 hB0 b0
   obtain ⟨i, rfl, hi, hqi, hk, hA, hB, bd0⟩ := hrel
   have hsum : IntKind.i64.wrap ((q : Int) + (i : Int)) = (q : Int) + (i : Int) := by simp only [IntKind.wrap, IntKind.signed, IntKind.bits]; simp; omega
   have hwi : IntKind.i64.wrap ((i : Int) + 1) = (i : Int) + 1 := by simp only [IntKind.wrap, IntKind.signed, IntKind.bits]; simp; omega
   by_cases hlt : i < W.length
   · have hlt1 : decide (i < W.length) = true := decide_eq_true hlt
     have hlt' : (i : Int) < (W.length : Int) := by omega
     have hixW := idx hlt
     by_cases hq2 : q + i < l.length
     · have hg1 : ¬ ((l.length : Int) ≤ (q : Int) + (i : Int)) := by omega
       have hg2 : decide ((l.length : Int) ≤ (q : Int) + (i : Int)) = false := by simp; omega
       have hixl : ∀ wx : World, (Instr.index 9 (.string (txt l)) (.int .i64 ((q : Int) + (i : Int)))).run Tryz.prog wx = .ok (.int .u8 (nb l (q + i) : Int)) wx := by
         have := idx hq2
         rw [Int.natCast_add] at this
         exact this
       rw [word_on v hlt hq2] at hk
       obtain ⟨x, hx⟩ : ∃ x, nb l (q + i) = x := ⟨_, rfl⟩
       obtain ⟨y, hy⟩ : ∃ y, nb W i = y := ⟨_, rfl⟩
       rw [hx] at hixl hk
       rw [hy] at hixW hk
       clear hx hy
       by_cases hxy : x = y
       · subst hxy
         rw [if_pos rfl] at hk
         have HK := Lib.hid hk
         clear hk
         go_wp2_with fail
         go_quiet (fail)
         go_wp2_with fail
         go_roundw
         case rel => exact ⟨i + 1, by go_num, by omega, by omega, by rw [HK.out]; rfl, ((below_drewN (Below.refl _ _) nq).block _ (lt_of_heap hA)).trans hA, ((below_drewN (Below.refl _ _) nq).block _ (lt_of_heap hB)).trans hB, below_drewN bd0 _⟩
         case measure => simp [intOf]; omega
       · rw [if_neg hxy] at hk
         have hne : ((x : Int) != (y : Int)) = true := by simp; omega
         have fin : ∀ (C : Value → Tre.Val → Prop) (p : Int), TellE C l.length (word v W (l.drop q)) (.returned (badV p 3)) := fun C p => .bad hk (by decide)
         have hb : ∀ wx : World, Calls Tryz.prog 58 #[.string (txt l), .int .i64 ((q : Int) + (i : Int))] wx fun r w' => r = .returned (badV ((q : Int) + (i : Int)) 3) ∧ Below wx.heap.size wx w' := fun wx => by
           have := rhere_any (w := wx) (l := l) (q := q + i)
           rw [show hereE l (q + i) = 3 by unfold hereE; rw [if_neg (by omega)], Int.natCast_add] at this
           exact this
         simp only [badV] at hb
         have HC := Lib.hid fin
         clear hk fin
         go_wp2_with fail
         go_quiet (fail)
         have hBX := ((below_drewN (Below.refl _ _) nq).block _ (lt_of_heap hB)).trans hB
         have bdX := below_drewN bd0 nq
         clear hA hB bd0
         generalize wr.drewN nq = P0 at *
         go_wp2_with fail
         refine (hb _).mono ?_
         rintro e w2 ⟨rfl, k2⟩
         have hB2 := (k2.block _ (lt_of_heap hBX)).trans hBX
         have b2 := bdX.trans (k2.mono bdX.size)
         have h9 := set11 hB2 (.int .i64 0) (.bool false) (.bool false) (.string ⟨#[]⟩) (.int .i64 0) (.string ⟨#[]⟩) (.slice none 0 0) (.slice none 0 0) (.int .i64 0) (.int .i64 ((q : Int) + (i : Int))) (.int .i64 3)
         have b9 := below11 b2 (show w.heap.size ≤ w.heap.size + 1 by omega) (.int .i64 0) (.bool false) (.bool false) (.string ⟨#[]⟩) (.int .i64 0) (.string ⟨#[]⟩) (.slice none 0 0) (.slice none 0 0) (.int .i64 0) (.int .i64 ((q : Int) + (i : Int))) (.int .i64 3)
         obtain ⟨d0, d1, d2, d3, d4, d5, d6, d7, d8, d9, d10⟩ := eleven h9
         obtain ⟨z0, z1, z2, z3, z4, z5, z6, z7, z8, z9, z10⟩ := eleven hB2
         have qf := free_of hB2
         clear h9 hB2 hBX bdX k2 b2
         go_wp2_with fail
         refine bodyPost_ret (v := badV ((q : Int) + (i : Int)) 3) (by simp [results, Tryz.results37, go_sem, badV, d0, d1, d2, d3, d4, d5, d6, d7, d8, d9, d10]) rfl ⟨HC.out _ _, b9⟩
     · have hg1 : (l.length : Int) ≤ (q : Int) + (i : Int) := by omega
       have hg2 : decide ((l.length : Int) ≤ (q : Int) + (i : Int)) = true := by simp; omega
       rw [word_short v hlt (by omega)] at hk
       have fin : ∀ (C : Value → Tre.Val → Prop) (p : Int), TellE C l.length (word v W (l.drop q)) (.returned (badV p 2)) := fun C p => .bad hk (by decide)
       have hb : ∀ wx : World, Calls Tryz.prog 58 #[.string (txt l), .int .i64 ((q : Int) + (i : Int))] wx fun r w' => r = .returned (badV ((q : Int) + (i : Int)) 2) ∧ Below wx.heap.size wx w' := fun wx => by
         have := rhere_any (w := wx) (l := l) (q := q + i)
         rw [show hereE l (q + i) = 2 by unfold hereE; rw [if_pos (by omega)], Int.natCast_add] at this
         exact this
       simp only [badV] at hb
       have HC := Lib.hid fin
       clear hk fin
       go_wp2_with fail
       go_quiet (fail)
       have hBX := ((below_drewN (Below.refl _ _) nq).block _ (lt_of_heap hB)).trans hB
       have bdX := below_drewN bd0 nq
       clear hA hB bd0
       generalize wr.drewN nq = P0 at *
       go_wp2_with fail
       refine (hb _).mono ?_
       rintro e w2 ⟨rfl, k2⟩
       have hB2 := (k2.block _ (lt_of_heap hBX)).trans hBX
       have b2 := bdX.trans (k2.mono bdX.size)
       have h9 := set11 hB2 (.int .i64 0) (.bool false) (.bool false) (.string ⟨#[]⟩) (.int .i64 0) (.string ⟨#[]⟩) (.slice none 0 0) (.slice none 0 0) (.int .i64 0) (.int .i64 ((q : Int) + (i : Int))) (.int .i64 2)
       have b9 := below11 b2 (show w.heap.size ≤ w.heap.size + 1 by omega) (.int .i64 0) (.bool false) (.bool false) (.string ⟨#[]⟩) (.int .i64 0) (.string ⟨#[]⟩) (.slice none 0 0) (.slice none 0 0) (.int .i64 0) (.int .i64 ((q : Int) + (i : Int))) (.int .i64 2)
       obtain ⟨d0, d1, d2, d3, d4, d5, d6, d7, d8, d9, d10⟩ := eleven h9
       obtain ⟨z0, z1, z2, z3, z4, z5, z6, z7, z8, z9, z10⟩ := eleven hB2
       have qf := free_of hB2
       clear h9 hB2 hBX bdX k2 b2
       go_wp2_with fail
       refine bodyPost_ret (v := badV ((q : Int) + (i : Int)) 2) (by simp [results, Tryz.results37, go_sem, badV, d0, d1, d2, d3, d4, d5, d6, d7, d8, d9, d10]) rfl ⟨HC.out _ _, b9⟩
   · have hlt1 : decide (i < W.length) = false := decide_eq_false hlt
     have hiW : i = W.length := by omega
     have hwq : IntKind.i64.wrap ((q : Int) + (W.length : Int)) = (q : Int) + (W.length : Int) := by simp only [IntKind.wrap, IntKind.signed, IntKind.bits]; simp; omega
     rw [wordR_end v (by omega)] at hk
     have fin : ∀ (wx : World) (p : Int), TellE (Tre.HoldF w.heap.size wx) l.length (word v W (l.drop q)) (.returned (.agg #[.int .i64 k0, .bool bl, .bool bm, .string d, .int .i64 x0, .string t, .slice a1 n1 m1, .slice a2 n2 m2, .int .i64 ((q : Int) + (W.length : Int)), .int .i64 p, .int .i64 0])) := fun wx p => .good hk (by rw [List.length_drop]; omega) (HCC.out wx)
     have HC := Lib.hid fin
     subst hiW
     clear hk fin
     have h9 := set11 hB (.int .i64 k0) (.bool bl) (.bool bm) (.string d) (.int .i64 x0) (.string t) (.slice a1 n1 m1) (.slice a2 n2 m2) (.int .i64 ((q : Int) + (W.length : Int))) (.int .i64 0) (.int .i64 0)
     have b9 := below11 bd0 (show w.heap.size ≤ w.heap.size + 1 by omega) (.int .i64 k0) (.bool bl) (.bool bm) (.string d) (.int .i64 x0) (.string t) (.slice a1 n1 m1) (.slice a2 n2 m2) (.int .i64 ((q : Int) + (W.length : Int))) (.int .i64 0) (.int .i64 0)
     obtain ⟨d0, d1, d2, d3, d4, d5, d6, d7, d8, d9, d10⟩ := eleven h9
     obtain ⟨z0, z1, z2, z3, z4, z5, z6, z7, z8, z9, z10⟩ := eleven hB
     obtain ⟨y0, y1, y2, y3, y4, y5, y6, y7⟩ := eight hA
     have qf := free_of hB
     clear h9 hA hB
     go_wp2_with fail
     refine bodyPost_ret (v := .agg #[.int .i64 k0, .bool bl, .bool bm, .string d, .int .i64 x0, .string t, .slice a1 n1 m1, .slice a2 n2 m2, .int .i64 ((q : Int) + (W.length : Int)), .int .i64 0, .int .i64 0]) (by simp [results, Tryz.results37, go_sem, d0, d1, d2, d3, d4, d5, d6, d7, d8, d9, d10]) rfl ⟨HC.out _ _, b9⟩
end Go.Proofs.YtlfbnfphocpgeaaGreatDoor.Jdec
