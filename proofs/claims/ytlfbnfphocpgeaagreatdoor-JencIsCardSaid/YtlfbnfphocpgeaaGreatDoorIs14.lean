/- A part of what is_holds leans on (its texts, put together). Nothing is claimed here. -/
import Derived.Test.YtlfbnfphocpgeaaGreatDoorIs11
import Derived.Test.YtlfbnfphocpgeaaGreatDoorIs13
namespace Go.Proofs.YtlfbnfphocpgeaaGreatDoor.Tre
open Go.RowKit Kit Txt Go.Maps
open Num (Dec zero)
theorem uvalid_any {w : World} (ho : Utf.Laid w) {l : List UInt8} (hl : l.length < 1000000000) : Calls Tryz.prog 112 #[.string (txt l)] w fun e w' => e = .returned (.bool (decide (Utf.bad l = none))) ∧ Below w.heap.size w w' := by
 have h := Utf.valid_any (w := w) (s := txt l) (by rw [txt_size]; omega) ho
 rw [txt_list, decide_eq_decide.2 (Utf.badI_neg l)] at h
 exact h
set_option maxRecDepth 100000 in
set_option maxHeartbeats 4000000 in
theorem rgkeys_any {w : World} (ho : Utf.Laid w) {u : Value} {ks : List (List UInt8)} (hs : ∀ x ∈ ks, x.length < 1000000000) (h : Ks w u ks) : Calls Tryz.prog 113 #[u] w (Tells ((∀ x ∈ ks, Utf.bad x = none) ∧ ks.Nodup) w) := by
 obtain ⟨a, c, rfl, hc, hm, hx⟩ := h
 have hn : ks.length ≤ 9223372036854775807 := Nat.le_trans hc hm
 have hmm := @run_makeMap Tryz.prog
 have hM := Seen.made w ks
 have bM : Below w.heap.size w (w.alloc (.map #[] 0)) := (Below.refl _ w).alloc (Nat.le_refl _) _
 go_enter Tryz.func113, Tryz.ntmps113
 go_wp2_with fail
 go_loopw [9] (fun y wr => ∃ j : Nat, j ≤ ks.length ∧ y = .int .i64 j ∧ Seen wr w.heap.size j ks ∧ (∀ x ∈ ks.take j, Utf.bad x = none) ∧ (ks.take j).Nodup ∧ Below w.heap.size w wr) (fun y _ => ks.length - (intOf y).toNat)
 case atStart => exact ⟨0, Nat.zero_le _, rfl, hM, by simp, by simp, bM⟩
 case round =>
   obtain ⟨j, hj, rfl, hS, hall, hnd, bB⟩ := hrel
   clear hM bM hmm
   by_cases hlt : j < ks.length
   · have hlt' : (j : Int) < (ks.length : Int) := by omega
     rcases hx with rfl | ⟨g, off, rfl, hg, hx⟩
     · exact absurd hlt (Nat.not_lt_zero _)
     have hcell := (bB.cell (p := ⟨g, off + j, none⟩) hg).trans (hx j _ (List.getElem?_eq_getElem hlt))
     have hl := hs _ (List.getElem_mem hlt)
     have hlook := hS.look hl (by kernel_rfl)
     have hv := uvalid_any (ho.below bB (ho.lt)) hl
     have hput := fun (w1 : World) (hb : Below wr.heap.size wr w1) => (hS.grown hb).put hlt hn hl
     have hsub : ∀ x ∈ ks.take (j + 1), Utf.bad x = none → x ∈ ks.take (j + 1) := fun x h _ => h
     have hst : ks.take (j + 1) = ks.take j ++ [ks[j]] := List.take_succ_eq_append_getElem hlt
     have hmem : ks[j] ∈ ks := List.getElem_mem hlt
     have hdup : ks[j] ∈ ks.take j → ¬ ks.Nodup := fun hin hnd2 => by
       have h2 : (ks.take (j + 1)).Nodup := hnd2.sublist (List.take_sublist _ _)
       rw [hst, List.nodup_append] at h2
       exact h2.2.2 _ hin _ (by simp) rfl
     generalize ks[j] = l at *
     have wk : IntKind.i64.wrap ((j : Int) + 1) = (j : Int) + 1 := by simp only [IntKind.wrap, IntKind.signed, IntKind.bits]; simp; omega
     have HX := Lib.hid hx
     have HS := Lib.hid hs
     have HA := Lib.hid hall
     have HND := Lib.hid hnd
     have HST := Lib.hid hst
     clear hx hs hall hnd hst hsub
     by_cases hin : l ∈ ks.take j
     · have HNO := Lib.hid (hdup hin)
       simp only [hin, decide_true] at hlook
       clear hin hdup hv hput hmem
       go_wp2_with fail
       go_ret
       exact .no (fun h => HNO.out h.2) bB
     · simp only [hin, decide_false] at hlook
       have HIN := Lib.hid hin
       clear hin hdup
       by_cases hb : Utf.bad l = none
       · have HB := Lib.hid hb
         simp only [hb, decide_true] at hv
         clear hb
         go_wp2_with fail
         refine hv.mono ?_
         rintro e w1 ⟨rfl, k1⟩
         obtain ⟨w2, hrun, hS2, hg2⟩ := hput w1 k1
         have hS1 := hS.grown k1
         have b1 := bB.trans (k1.mono bB.size)
         have b2 : Below w.heap.size w w2 := b1.grown hg2 b1.size (fun k e => by cases e; exact Nat.le_refl _)
         go_wp2_with fail
         go_roundw
         case rel =>
           refine ⟨j + 1, by omega, by go_num, hS2, fun x hx => ?_, ?_, b2⟩
           · rw [HST.out] at hx
             rcases List.mem_append.1 hx with h | h
             · exact HA.out x h
             · rw [List.mem_singleton.1 h]
               exact HB.out
           · rw [HST.out, List.nodup_append]
             refine ⟨HND.out, by simp, fun a ha b hb => ?_⟩
             rw [List.mem_singleton.1 hb]
             rintro rfl
             exact HIN.out ha
         case measure => simp [intOf]; omega
       · have HNO := Lib.hid (show ¬ ((∀ x ∈ ks, Utf.bad x = none) ∧ ks.Nodup) from fun h => hb (h.1 l hmem))
         simp only [hb, decide_false] at hv
         clear hb hput hmem
         go_wp2_with fail
         refine hv.mono ?_
         rintro e w1 ⟨rfl, k1⟩
         have b1 := bB.trans (k1.mono bB.size)
         go_wp2_with fail
         go_ret
         exact .no HNO.out b1
   · obtain rfl : j = ks.length := by omega
     rw [List.take_length] at hall hnd
     have HA := Lib.hid hall
     have HND := Lib.hid hnd
     clear hall hnd hs
     go_wp2_with fail
     go_ret
     exact .yes ⟨HA.out, HND.out⟩ bB
end Go.Proofs.YtlfbnfphocpgeaaGreatDoor.Tre
namespace Go.Proofs.YtlfbnfphocpgeaaGreatDoor.Tre
open Go.RowKit Kit Txt Go.Maps
open Num (Dec zero)
theorem zero_right : Num.Right zero := by decide
theorem bad_nil : Utf.bad [] = none := by unfold Utf.bad; rw [Utf.scan_nil]
theorem own_eq (k : Int) (b : Bool) (n : Dec) (s : List UInt8) (ks : List (List UInt8)) (vs : List Val) : Own ⟨k, b, n, s, ks, vs⟩ ↔ 1 ≤ k ∧ k ≤ 6 ∧ (k ≠ 2 → b = false) ∧ (k ≠ 3 → n = zero) ∧ (k ≠ 4 → s = []) ∧ (k < 5 → vs = []) ∧ (k ≠ 6 → ks = []) ∧ Num.Right n ∧ Utf.bad s = none ∧ (k = 6 → ks.length = vs.length) ∧ (∀ x ∈ ks, Utf.bad x = none) ∧ ks.Nodup := Iff.rfl
theorem own1 (b : Bool) (n : Dec) (s : List UInt8) (ks : List (List UInt8)) (vs : List Val) : Own ⟨1, b, n, s, ks, vs⟩ ↔ Val.mk 0 b n s ks vs = none' := by
 rw [own_eq]
 unfold none'
 constructor
 · rintro ⟨-, -, h1, h2, h3, h4, h5, -⟩
   rw [h1 (by decide), h2 (by decide), h3 (by decide), h4 (by decide), h5 (by decide)]
 · intro h
   injection h with _ h1 h2 h3 h4 h5
   subst h1; subst h2; subst h3; subst h4; subst h5
   exact ⟨by decide, by decide, fun _ => rfl, fun _ => rfl, fun _ => rfl, fun _ => rfl, fun _ => rfl, zero_right, bad_nil, fun h => absurd h (by decide), fun x hx => absurd hx List.not_mem_nil, List.nodup_nil⟩
theorem own2 (b : Bool) (n : Dec) (s : List UInt8) (ks : List (List UInt8)) (vs : List Val) : Own ⟨2, b, n, s, ks, vs⟩ ↔ Val.mk 0 false n s ks vs = none' := by
 rw [own_eq]
 unfold none'
 constructor
 · rintro ⟨-, -, h1, h2, h3, h4, h5, -⟩
   rw [h2 (by decide), h3 (by decide), h4 (by decide), h5 (by decide)]
 · intro h
   injection h with _ _ h2 h3 h4 h5
   subst h2; subst h3; subst h4; subst h5
   exact ⟨by decide, by decide, fun h => absurd rfl h, fun _ => rfl, fun _ => rfl, fun _ => rfl, fun _ => rfl, zero_right, bad_nil, fun h => absurd h (by decide), fun x hx => absurd hx List.not_mem_nil, List.nodup_nil⟩
theorem own3 (b : Bool) (n : Dec) (s : List UInt8) (ks : List (List UInt8)) (vs : List Val) : Own ⟨3, b, n, s, ks, vs⟩ ↔ Num.Right n ∧ Val.mk 0 b zero s ks vs = none' := by
 rw [own_eq]
 unfold none'
 constructor
 · rintro ⟨-, -, h1, h2, h3, h4, h5, h6, -⟩
   exact ⟨h6, by rw [h1 (by decide), h3 (by decide), h4 (by decide), h5 (by decide)]⟩
 · rintro ⟨h6, h⟩
   injection h with _ h1 _ h3 h4 h5
   subst h1; subst h3; subst h4; subst h5
   exact ⟨by decide, by decide, fun _ => rfl, fun h => absurd rfl h, fun _ => rfl, fun _ => rfl, fun _ => rfl, h6, bad_nil, fun h => absurd h (by decide), fun x hx => absurd hx List.not_mem_nil, List.nodup_nil⟩
theorem own4 (b : Bool) (n : Dec) (s : List UInt8) (ks : List (List UInt8)) (vs : List Val) : Own ⟨4, b, n, s, ks, vs⟩ ↔ Utf.bad s = none ∧ Val.mk 0 b n [] ks vs = none' := by
 rw [own_eq]
 unfold none'
 constructor
 · rintro ⟨-, -, h1, h2, h3, h4, h5, -, h6, -⟩
   exact ⟨h6, by rw [h1 (by decide), h2 (by decide), h4 (by decide), h5 (by decide)]⟩
 · rintro ⟨h6, h⟩
   injection h with _ h1 h2 _ h4 h5
   subst h1; subst h2; subst h4; subst h5
   exact ⟨by decide, by decide, fun _ => rfl, fun _ => rfl, fun h => absurd rfl h, fun _ => rfl, fun _ => rfl, zero_right, h6, fun h => absurd h (by decide), fun x hx => absurd hx List.not_mem_nil, List.nodup_nil⟩
theorem own5 (b : Bool) (n : Dec) (s : List UInt8) (ks : List (List UInt8)) (vs : List Val) : Own ⟨5, b, n, s, ks, vs⟩ ↔ Val.mk 0 b n s ks [] = none' := by
 rw [own_eq]
 unfold none'
 constructor
 · rintro ⟨-, -, h1, h2, h3, -, h5, -⟩
   rw [h1 (by decide), h2 (by decide), h3 (by decide), h5 (by decide)]
 · intro h
   injection h with _ h1 h2 h3 h4 _
   subst h1; subst h2; subst h3; subst h4
   exact ⟨by decide, by decide, fun _ => rfl, fun _ => rfl, fun _ => rfl, fun h => absurd h (by decide), fun _ => rfl, zero_right, bad_nil, fun h => absurd h (by decide), fun x hx => absurd hx List.not_mem_nil, List.nodup_nil⟩
theorem own6 (b : Bool) (n : Dec) (s : List UInt8) (ks : List (List UInt8)) (vs : List Val) : Own ⟨6, b, n, s, ks, vs⟩ ↔ ks.length = vs.length ∧ ((∀ x ∈ ks, Utf.bad x = none) ∧ ks.Nodup) ∧ Val.mk 0 b n s [] [] = none' := by
 rw [own_eq]
 unfold none'
 constructor
 · rintro ⟨-, -, h1, h2, h3, -, -, -, -, h6, h7, h8⟩
   exact ⟨h6 rfl, ⟨h7, h8⟩, by rw [h1 (by decide), h2 (by decide), h3 (by decide)]⟩
 · rintro ⟨h6, ⟨h7, h8⟩, h⟩
   injection h with _ h1 h2 h3 _ _
   subst h1; subst h2; subst h3
   exact ⟨by decide, by decide, fun _ => rfl, fun _ => rfl, fun _ => rfl, fun h => absurd h (by decide), fun h => absurd rfl h, zero_right, bad_nil, fun _ => h6, h7, h8⟩
set_option maxRecDepth 100000 in
set_option maxHeartbeats 16000000 in
theorem rgfields_any {v : Val} {w : World} {u : Value} (ho : Utf.Laid w) (hs1 : v.str.length < 1000000000) (hs2 : v.num.dig.length < 1000000000) (hs3 : ∀ x ∈ v.keys, x.length < 1000000000) (h : HoldV w u v) :
   Calls Tryz.prog 77 #[u] w (Tells (Own v) w) := by
 obtain ⟨k, b, n, s, ks, vs⟩ := v
 obtain ⟨cs, rfl, hc⟩ := h
 rw [Hold] at hc
 obtain ⟨uk, a, c, rfl, hk, hv⟩ := hc
 unfold Val.str at hs1
 unfold Val.num at hs2
 unfold Val.keys at hs3
 dsimp only at hs1 hs2 hs3
 have hk' := hk
 obtain ⟨pk, ck, rfl, hck, hmk, -⟩ := hk'
 have hnk : Ks w (.slice none 0 0) [] := ⟨none, 0, rfl, Nat.le_refl _, by omega, .inl rfl⟩
 have hnv : Kids w none 0 [] := ⟨Nat.le_refl _, by omega, .inl rfl⟩
 have hv : Kids w a c vs := hv
 have hv1 := hv.1
 have hv2 := hv.2.1
 show Calls Tryz.prog 77 #[.agg #[.int .i64 k, .bool b, .bool n.neg, .string (txt n.dig), .int .i64 n.exp, .string (txt s), .slice pk ks.length ck, .slice a vs.length c]] w _
 have hA := fun o : Obj => new_of (World.alloc_heap_new w (.cells #[.int .i64 k, .bool b, .bool n.neg, .string (txt n.dig), .int .i64 n.exp, .string (txt s), .slice pk ks.length ck, .slice a vs.length c] 29)) o
 have hB := fun o : Obj => World.alloc_heap_new (w.alloc (.cells #[.int .i64 k, .bool b, .bool n.neg, .string (txt n.dig), .int .i64 n.exp, .string (txt s), .slice pk ks.length ck, .slice a vs.length c] 29)) o
 simp only [World.size_alloc] at hB
 have bW := fun o : Obj => ((Below.refl w.heap.size w).alloc (Nat.le_refl _) (.cells #[.int .i64 k, .bool b, .bool n.neg, .string (txt n.dig), .int .i64 n.exp, .string (txt s), .slice pk ks.length ck, .slice a vs.length c] 29)).alloc (by simp) o
 by_cases k1 : k = 1
 · subst k1
   have hO := own1 b n s ks vs
   have hA := hA (.cells #[.int .i64 0, .bool b, .bool n.neg, .string (txt n.dig), .int .i64 n.exp, .string (txt s), .slice pk ks.length ck, .slice a vs.length c] 29)
   have hB := hB (.cells #[.int .i64 0, .bool b, .bool n.neg, .string (txt n.dig), .int .i64 n.exp, .string (txt s), .slice pk ks.length ck, .slice a vs.length c] 29)
   have bW := bW (.cells #[.int .i64 0, .bool b, .bool n.neg, .string (txt n.dig), .int .i64 n.exp, .string (txt s), .slice pk ks.length ck, .slice a vs.length c] 29)
   have hsame := fun (wx : World) (hb : Below w.heap.size w wx) => tsame_of (Val.mk 0 b n s ks vs) none' wx (.agg #[.int .i64 0, .bool b, .bool n.neg, .string (txt n.dig), .int .i64 n.exp, .string (txt s), .slice pk ks.length ck, .slice a vs.length c]) _ ⟨_, rfl, by rw [Hold]; exact ⟨_, _, _, rfl, hk.below hb, hv.below hb⟩⟩ (hold_none wx)
   obtain ⟨W, hW⟩ : ∃ W, (w.alloc (.cells #[.int .i64 1, .bool b, .bool n.neg, .string (txt n.dig), .int .i64 n.exp, .string (txt s), .slice pk ks.length ck, .slice a vs.length c] 29)).alloc (.cells #[.int .i64 0, .bool b, .bool n.neg, .string (txt n.dig), .int .i64 n.exp, .string (txt s), .slice pk ks.length ck, .slice a vs.length c] 29) = W := ⟨_, rfl⟩
   rw [hW] at hA hB bW
   have HW := Lib.hid hW
   clear hW
   obtain ⟨c0, c1, c2, c3, c4, c5, c6, c7⟩ := eight hA
   obtain ⟨d0, d1, d2, d3, d4, d5, d6, d7⟩ := eight hB
   have HS := Lib.hid hsame
   have HO := Lib.hid hO
   clear hsame hO hs1 hs2 hs3 hk hv hnk hnv
   go_enter Tryz.func77, Tryz.ntmps77
   go_wp2_with fail
   rw [HW.out]
   go_wp2_with fail
   refine (HS.out _ bW).mono ?_
   rintro e wz ⟨⟨r, rfl, hr⟩, kz⟩
   have bz := bW.trans (kz.mono bW.size)
   cases r with
   | true =>
     have HR := Lib.hid (hr.1 rfl)
     clear hr
     go_wp2_with fail
     go_ret
     exact .yes (HO.out.2 HR.out) bz
   | false =>
     have HR := Lib.hid (fun h => (absurd (hr.2 h) (by decide) : False))
     clear hr
     go_wp2_with fail
     go_ret
     exact .no (fun h => HR.out (HO.out.1 h)) bz
 by_cases k2 : k = 2
 · subst k2
   have hO := own2 b n s ks vs
   have hA := hA (.cells #[.int .i64 0, .bool false, .bool n.neg, .string (txt n.dig), .int .i64 n.exp, .string (txt s), .slice pk ks.length ck, .slice a vs.length c] 29)
   have hB := hB (.cells #[.int .i64 0, .bool false, .bool n.neg, .string (txt n.dig), .int .i64 n.exp, .string (txt s), .slice pk ks.length ck, .slice a vs.length c] 29)
   have bW := bW (.cells #[.int .i64 0, .bool false, .bool n.neg, .string (txt n.dig), .int .i64 n.exp, .string (txt s), .slice pk ks.length ck, .slice a vs.length c] 29)
   have hsame := fun (wx : World) (hb : Below w.heap.size w wx) => tsame_of (Val.mk 0 false n s ks vs) none' wx (.agg #[.int .i64 0, .bool false, .bool n.neg, .string (txt n.dig), .int .i64 n.exp, .string (txt s), .slice pk ks.length ck, .slice a vs.length c]) _ ⟨_, rfl, by rw [Hold]; exact ⟨_, _, _, rfl, hk.below hb, hv.below hb⟩⟩ (hold_none wx)
   obtain ⟨W, hW⟩ : ∃ W, (w.alloc (.cells #[.int .i64 2, .bool b, .bool n.neg, .string (txt n.dig), .int .i64 n.exp, .string (txt s), .slice pk ks.length ck, .slice a vs.length c] 29)).alloc (.cells #[.int .i64 0, .bool false, .bool n.neg, .string (txt n.dig), .int .i64 n.exp, .string (txt s), .slice pk ks.length ck, .slice a vs.length c] 29) = W := ⟨_, rfl⟩
   rw [hW] at hA hB bW
   have HW := Lib.hid hW
   clear hW
   obtain ⟨c0, c1, c2, c3, c4, c5, c6, c7⟩ := eight hA
   obtain ⟨d0, d1, d2, d3, d4, d5, d6, d7⟩ := eight hB
   have HS := Lib.hid hsame
   have HO := Lib.hid hO
   clear hsame hO hs1 hs2 hs3 hk hv hnk hnv
   go_enter Tryz.func77, Tryz.ntmps77
   go_wp2_with fail
   rw [HW.out]
   go_wp2_with fail
   refine (HS.out _ bW).mono ?_
   rintro e wz ⟨⟨r, rfl, hr⟩, kz⟩
   have bz := bW.trans (kz.mono bW.size)
   cases r with
   | true =>
     have HR := Lib.hid (hr.1 rfl)
     clear hr
     go_wp2_with fail
     go_ret
     exact .yes (HO.out.2 HR.out) bz
   | false =>
     have HR := Lib.hid (fun h => (absurd (hr.2 h) (by decide) : False))
     clear hr
     go_wp2_with fail
     go_ret
     exact .no (fun h => HR.out (HO.out.1 h)) bz
 by_cases k5 : k = 5
 · subst k5
   have hO := own5 b n s ks vs
   have hA := hA (.cells #[.int .i64 0, .bool b, .bool n.neg, .string (txt n.dig), .int .i64 n.exp, .string (txt s), .slice pk ks.length ck, .slice none 0 0] 29)
   have hB := hB (.cells #[.int .i64 0, .bool b, .bool n.neg, .string (txt n.dig), .int .i64 n.exp, .string (txt s), .slice pk ks.length ck, .slice none 0 0] 29)
   have bW := bW (.cells #[.int .i64 0, .bool b, .bool n.neg, .string (txt n.dig), .int .i64 n.exp, .string (txt s), .slice pk ks.length ck, .slice none 0 0] 29)
   have hsame := fun (wx : World) (hb : Below w.heap.size w wx) => tsame_of (Val.mk 0 b n s ks []) none' wx (.agg #[.int .i64 0, .bool b, .bool n.neg, .string (txt n.dig), .int .i64 n.exp, .string (txt s), .slice pk ks.length ck, .slice none 0 0]) _ ⟨_, rfl, by rw [Hold]; exact ⟨_, _, _, rfl, hk.below hb, hnv.below hb⟩⟩ (hold_none wx)
   obtain ⟨W, hW⟩ : ∃ W, (w.alloc (.cells #[.int .i64 5, .bool b, .bool n.neg, .string (txt n.dig), .int .i64 n.exp, .string (txt s), .slice pk ks.length ck, .slice a vs.length c] 29)).alloc (.cells #[.int .i64 0, .bool b, .bool n.neg, .string (txt n.dig), .int .i64 n.exp, .string (txt s), .slice pk ks.length ck, .slice none 0 0] 29) = W := ⟨_, rfl⟩
   rw [hW] at hA hB bW
   have HW := Lib.hid hW
   clear hW
   obtain ⟨c0, c1, c2, c3, c4, c5, c6, c7⟩ := eight hA
   obtain ⟨d0, d1, d2, d3, d4, d5, d6, d7⟩ := eight hB
   have HS := Lib.hid hsame
   have HO := Lib.hid hO
   clear hsame hO hs1 hs2 hs3 hk hv hnk hnv
   go_enter Tryz.func77, Tryz.ntmps77
   go_wp2_with fail
   rw [HW.out]
   go_wp2_with fail
   refine (HS.out _ bW).mono ?_
   rintro e wz ⟨⟨r, rfl, hr⟩, kz⟩
   have bz := bW.trans (kz.mono bW.size)
   cases r with
   | true =>
     have HR := Lib.hid (hr.1 rfl)
     clear hr
     go_wp2_with fail
     go_ret
     exact .yes (HO.out.2 HR.out) bz
   | false =>
     have HR := Lib.hid (fun h => (absurd (hr.2 h) (by decide) : False))
     clear hr
     go_wp2_with fail
     go_ret
     exact .no (fun h => HR.out (HO.out.1 h)) bz
 by_cases k3 : k = 3
 · subst k3
   have hO := own3 b n s ks vs
   have hA := hA (.cells #[.int .i64 0, .bool b, .bool false, .string ⟨#[]⟩, .int .i64 0, .string (txt s), .slice pk ks.length ck, .slice a vs.length c] 29)
   have hB := hB (.cells #[.int .i64 0, .bool b, .bool false, .string ⟨#[]⟩, .int .i64 0, .string (txt s), .slice pk ks.length ck, .slice a vs.length c] 29)
   have bW := bW (.cells #[.int .i64 0, .bool b, .bool false, .string ⟨#[]⟩, .int .i64 0, .string (txt s), .slice pk ks.length ck, .slice a vs.length c] 29)
   have hsame := fun (wx : World) (hb : Below w.heap.size w wx) => tsame_of (Val.mk 0 b zero s ks vs) none' wx (.agg #[.int .i64 0, .bool b, .bool false, .string ⟨#[]⟩, .int .i64 0, .string (txt s), .slice pk ks.length ck, .slice a vs.length c]) _ ⟨_, rfl, by rw [Hold]; exact ⟨_, _, _, rfl, hk.below hb, hv.below hb⟩⟩ (hold_none wx)
   obtain ⟨W, hW⟩ : ∃ W, (w.alloc (.cells #[.int .i64 3, .bool b, .bool n.neg, .string (txt n.dig), .int .i64 n.exp, .string (txt s), .slice pk ks.length ck, .slice a vs.length c] 29)).alloc (.cells #[.int .i64 0, .bool b, .bool false, .string ⟨#[]⟩, .int .i64 0, .string (txt s), .slice pk ks.length ck, .slice a vs.length c] 29) = W := ⟨_, rfl⟩
   rw [hW] at hA hB bW
   have HW := Lib.hid hW
   clear hW
   obtain ⟨c0, c1, c2, c3, c4, c5, c6, c7⟩ := eight hA
   obtain ⟨d0, d1, d2, d3, d4, d5, d6, d7⟩ := eight hB
   have HS := Lib.hid hsame
   have HO := Lib.hid hO
   have hn := fun (wx : World) => Num.nright_all (w := wx) hs2
   simp only [Num.numV] at hn
   clear hsame hO hs1 hs2 hs3 hk hv hnk hnv
   go_enter Tryz.func77, Tryz.ntmps77
   go_wp2_with fail
   rw [HW.out]
   go_wp2_with fail
   refine (hn W).mono ?_
   rintro e w1 ⟨rfl, k1⟩
   have b1 := bW.trans (k1.mono bW.size)
   have hB1 := (k1.block _ (lt_of_heap hB)).trans hB
   clear c0 c1 c2 c3 c4 c5 c6 c7 d0 d1 d2 d3 d4 d5 d6 d7 hA hB hn
   obtain ⟨d0, d1, d2, d3, d4, d5, d6, d7⟩ := eight hB1
   by_cases hr : Num.Right n
   · have HP := Lib.hid hr
     simp only [hr, decide_true]
     clear hr
     go_wp2_with fail
     refine (HS.out _ b1).mono ?_
     rintro e wz ⟨⟨r, rfl, hr⟩, kz⟩
     have bz := b1.trans (kz.mono b1.size)
     cases r with
     | true =>
       have HR := Lib.hid (hr.1 rfl)
       clear hr
       go_wp2_with fail
       go_ret
       exact .yes (HO.out.2 ⟨HP.out, HR.out⟩) bz
     | false =>
       have HR := Lib.hid (fun h => (absurd (hr.2 h) (by decide) : False))
       clear hr
       go_wp2_with fail
       go_ret
       exact .no (fun h => HR.out ((HO.out.1 h).2)) bz
   · have HP := Lib.hid hr
     simp only [hr, decide_false]
     clear hr
     go_wp2_with fail
     go_ret
     exact .no (fun h => HP.out (HO.out.1 h).1) b1
 by_cases k4 : k = 4
 · subst k4
   have hO := own4 b n s ks vs
   have hA := hA (.cells #[.int .i64 0, .bool b, .bool n.neg, .string (txt n.dig), .int .i64 n.exp, .string ⟨#[]⟩, .slice pk ks.length ck, .slice a vs.length c] 29)
   have hB := hB (.cells #[.int .i64 0, .bool b, .bool n.neg, .string (txt n.dig), .int .i64 n.exp, .string ⟨#[]⟩, .slice pk ks.length ck, .slice a vs.length c] 29)
   have bW := bW (.cells #[.int .i64 0, .bool b, .bool n.neg, .string (txt n.dig), .int .i64 n.exp, .string ⟨#[]⟩, .slice pk ks.length ck, .slice a vs.length c] 29)
   have hsame := fun (wx : World) (hb : Below w.heap.size w wx) => tsame_of (Val.mk 0 b n [] ks vs) none' wx (.agg #[.int .i64 0, .bool b, .bool n.neg, .string (txt n.dig), .int .i64 n.exp, .string ⟨#[]⟩, .slice pk ks.length ck, .slice a vs.length c]) _ ⟨_, rfl, by rw [Hold]; exact ⟨_, _, _, rfl, hk.below hb, hv.below hb⟩⟩ (hold_none wx)
   obtain ⟨W, hW⟩ : ∃ W, (w.alloc (.cells #[.int .i64 4, .bool b, .bool n.neg, .string (txt n.dig), .int .i64 n.exp, .string (txt s), .slice pk ks.length ck, .slice a vs.length c] 29)).alloc (.cells #[.int .i64 0, .bool b, .bool n.neg, .string (txt n.dig), .int .i64 n.exp, .string ⟨#[]⟩, .slice pk ks.length ck, .slice a vs.length c] 29) = W := ⟨_, rfl⟩
   rw [hW] at hA hB bW
   have HW := Lib.hid hW
   clear hW
   obtain ⟨c0, c1, c2, c3, c4, c5, c6, c7⟩ := eight hA
   obtain ⟨d0, d1, d2, d3, d4, d5, d6, d7⟩ := eight hB
   have HS := Lib.hid hsame
   have HO := Lib.hid hO
   have hn := fun (wx : World) (hb : Below w.heap.size w wx) => uvalid_any (w := wx) (ho.below hb ho.lt) hs1
   clear hsame hO hs1 hs2 hs3 hk hv hnk hnv
   go_enter Tryz.func77, Tryz.ntmps77
   go_wp2_with fail
   rw [HW.out]
   go_wp2_with fail
   refine (hn W bW).mono ?_
   rintro e w1 ⟨rfl, k1⟩
   have b1 := bW.trans (k1.mono bW.size)
   have hB1 := (k1.block _ (lt_of_heap hB)).trans hB
   clear c0 c1 c2 c3 c4 c5 c6 c7 d0 d1 d2 d3 d4 d5 d6 d7 hA hB hn
   obtain ⟨d0, d1, d2, d3, d4, d5, d6, d7⟩ := eight hB1
   by_cases hr : Utf.bad s = none
   · have HP := Lib.hid hr
     simp only [hr, decide_true]
     clear hr
     go_wp2_with fail
     refine (HS.out _ b1).mono ?_
     rintro e wz ⟨⟨r, rfl, hr⟩, kz⟩
     have bz := b1.trans (kz.mono b1.size)
     cases r with
     | true =>
       have HR := Lib.hid (hr.1 rfl)
       clear hr
       go_wp2_with fail
       go_ret
       exact .yes (HO.out.2 ⟨HP.out, HR.out⟩) bz
     | false =>
       have HR := Lib.hid (fun h => (absurd (hr.2 h) (by decide) : False))
       clear hr
       go_wp2_with fail
       go_ret
       exact .no (fun h => HR.out ((HO.out.1 h).2)) bz
   · have HP := Lib.hid hr
     simp only [hr, decide_false]
     clear hr
     go_wp2_with fail
     go_ret
     exact .no (fun h => HP.out (HO.out.1 h).1) b1
 by_cases k6 : k = 6
 · subst k6
   have hO := own6 b n s ks vs
   have hA := hA (.cells #[.int .i64 0, .bool b, .bool n.neg, .string (txt n.dig), .int .i64 n.exp, .string (txt s), .slice none 0 0, .slice none 0 0] 29)
   have hB := hB (.cells #[.int .i64 0, .bool b, .bool n.neg, .string (txt n.dig), .int .i64 n.exp, .string (txt s), .slice none 0 0, .slice none 0 0] 29)
   have bW := bW (.cells #[.int .i64 0, .bool b, .bool n.neg, .string (txt n.dig), .int .i64 n.exp, .string (txt s), .slice none 0 0, .slice none 0 0] 29)
   have hsame := fun (wx : World) (hb : Below w.heap.size w wx) => tsame_of (Val.mk 0 b n s [] []) none' wx (.agg #[.int .i64 0, .bool b, .bool n.neg, .string (txt n.dig), .int .i64 n.exp, .string (txt s), .slice none 0 0, .slice none 0 0]) _ ⟨_, rfl, by rw [Hold]; exact ⟨_, _, _, rfl, hnk.below hb, hnv.below hb⟩⟩ (hold_none wx)
   obtain ⟨W, hW⟩ : ∃ W, (w.alloc (.cells #[.int .i64 6, .bool b, .bool n.neg, .string (txt n.dig), .int .i64 n.exp, .string (txt s), .slice pk ks.length ck, .slice a vs.length c] 29)).alloc (.cells #[.int .i64 0, .bool b, .bool n.neg, .string (txt n.dig), .int .i64 n.exp, .string (txt s), .slice none 0 0, .slice none 0 0] 29) = W := ⟨_, rfl⟩
   rw [hW] at hA hB bW
   have HW := Lib.hid hW
   clear hW
   obtain ⟨c0, c1, c2, c3, c4, c5, c6, c7⟩ := eight hA
   obtain ⟨d0, d1, d2, d3, d4, d5, d6, d7⟩ := eight hB
   have HS := Lib.hid hsame
   have HO := Lib.hid hO
   have hn := fun (wx : World) (hb : Below w.heap.size w wx) => rgkeys_any (w := wx) (ho.below hb ho.lt) hs3 (hk.below hb)
   by_cases hl : ks.length = vs.length
   · have hl' : (((ks.length : Nat) : Int) == ((vs.length : Nat) : Int)) = true := by simp [hl]
     have HL := Lib.hid hl
     clear hl
     clear hsame hO hs1 hs2 hs3 hk hv hnk hnv
     go_enter Tryz.func77, Tryz.ntmps77
     go_wp2_with fail
     rw [HW.out]
     go_wp2_with fail
     refine (hn W bW).mono ?_
     rintro e w1 ⟨⟨r, rfl, hr⟩, k1⟩
     have b1 := bW.trans (k1.mono bW.size)
     have hB1 := (k1.block _ (lt_of_heap hB)).trans hB
     clear c0 c1 c2 c3 c4 c5 c6 c7 d0 d1 d2 d3 d4 d5 d6 d7 hA hB hn
     obtain ⟨d0, d1, d2, d3, d4, d5, d6, d7⟩ := eight hB1
     have HQ := Lib.hid hr
     cases r with
     | true =>
       have HP := Lib.hid (hr.1 rfl)
       clear hr HQ
       go_wp2_with fail
       refine (HS.out _ b1).mono ?_
       rintro e wz ⟨⟨r, rfl, hr⟩, kz⟩
       have bz := b1.trans (kz.mono b1.size)
       cases r with
       | true =>
         have HR := Lib.hid (hr.1 rfl)
         clear hr
         go_wp2_with fail
         go_ret
         exact .yes (HO.out.2 ⟨HL.out, HP.out, HR.out⟩) bz
       | false =>
         have HR := Lib.hid (fun h => (absurd (hr.2 h) (by decide) : False))
         clear hr
         go_wp2_with fail
         go_ret
         exact .no (fun h => HR.out ((HO.out.1 h).2.2)) bz
     | false =>
       clear hr
       go_wp2_with fail
       go_ret
       exact .no (fun h => absurd (HQ.out.2 (HO.out.1 h).2.1) (by decide)) b1
   · have hl' : (((ks.length : Nat) : Int) == ((vs.length : Nat) : Int)) = false := by simp; omega
     have HL := Lib.hid hl
     clear hl
     clear hsame hO hs1 hs2 hs3 hk hv hnk hnv
     go_enter Tryz.func77, Tryz.ntmps77
     go_wp2_with fail
     rw [HW.out]
     go_wp2_with fail
     go_ret
     exact .no (fun h => HL.out (HO.out.1 h).1) bW
 have HN := Lib.hid (show ¬ Own ⟨k, b, n, s, ks, vs⟩ from fun h => by
   unfold Own Val.kind at h
   have h1 := h.1
   have h2 := h.2.1
   dsimp only at h1 h2
   omega)
 have e1 : (k == 1) = false := by simpa using k1
 have e2 : (k == 2) = false := by simpa using k2
 have e3 : (k == 3) = false := by simpa using k3
 have e4 : (k == 4) = false := by simpa using k4
 have e5 : (k == 5) = false := by simpa using k5
 have e6 : (k == 6) = false := by simpa using k6
 have hA := hA (.cells #[.int .i64 0, .bool b, .bool n.neg, .string (txt n.dig), .int .i64 n.exp, .string (txt s), .slice pk ks.length ck, .slice a vs.length c] 29)
 have bW := bW (.cells #[.int .i64 0, .bool b, .bool n.neg, .string (txt n.dig), .int .i64 n.exp, .string (txt s), .slice pk ks.length ck, .slice a vs.length c] 29)
 obtain ⟨c0, c1, c2, c3, c4, c5, c6, c7⟩ := eight hA
 clear k1 k2 k3 k4 k5 k6 hs1 hs2 hs3 hk hv hnk hnv hB
 go_enter Tryz.func77, Tryz.ntmps77
 go_wp2_with fail
 go_ret
 exact .no HN.out bW
end Go.Proofs.YtlfbnfphocpgeaaGreatDoor.Tre
namespace Go.Proofs.YtlfbnfphocpgeaaGreatDoor.Tre
open Go.RowKit Kit Txt
open Num (Dec zero)
theorem holdV_form {w : World} {y : Value} {v : Val} (h : HoldV w y v) : ∃ pk ck a c, y = .agg #[.int .i64 v.kind, .bool v.is, .bool v.num.neg, .string (txt v.num.dig), .int .i64 v.num.exp, .string (txt v.str), .slice pk v.keys.length ck, .slice a v.kids.length c] := by
 obtain ⟨k, b, n, s, ks, vs⟩ := v
 obtain ⟨cs, rfl, hc⟩ := h
 rw [Hold] at hc
 obtain ⟨uk, a, c, rfl, ⟨pk, ck, rfl, -⟩, -⟩ := hc
 exact ⟨pk, ck, a, c, rfl⟩
theorem deep_pos (v : Val) : 1 ≤ deep v := by
 rw [deep_eq]
 omega
theorem within_iff {v : Val} {m : Nat} (h : Own v) (hm : 0 < m) : (deep v ≤ m ∧ Whole v) ↔ ∀ x ∈ v.kids, deep x ≤ m - 1 ∧ Whole x := by
 rw [whole_iff, deep_eq]
 by_cases h5 : v.kind = 5 ∨ v.kind = 6
 · rw [if_pos h5]
   constructor
   · rintro ⟨h1, -, h2⟩ x hx
     have := deeps_le.1 (Nat.le_refl _) x hx
     exact ⟨by omega, h2 x hx⟩
   · intro h2
     have : deeps v.kids ≤ m - 1 := deeps_le.2 fun x hx => (h2 x hx).1
     exact ⟨by omega, h, fun x hx => (h2 x hx).2⟩
 · rw [if_neg h5]
   have hk : v.kids = [] := by
     unfold Own at h
     exact h.2.2.2.2.2.1 (by have := h.1; have := h.2.1; omega)
   rw [hk]
   constructor
   · intro _ x hx
     cases hx
   · intro _
     exact ⟨by omega, h, fun x hx => by cases hx⟩
set_option maxRecDepth 100000 in
set_option maxHeartbeats 8000000 in
theorem rgwithin_any : ∀ (v : Val), Mild v → ∀ (w : World) (u : Value) (m : Nat), m ≤ 64 → Utf.Laid w → HoldV w u v → Calls Tryz.prog 52 #[u, .int .i64 m] w (Tells (deep v ≤ m ∧ Whole v) w) := by
 refine ind1 fun v ih hmd w u m hm64 ho h => ?_
 have hsz := hmd.sizes
 have hkid := hmd.kids
 have hF := fun (wx : World) (hb : Below w.heap.size w wx) => rgfields_any (w := wx) (ho.below hb ho.lt) (by omega) (by omega) (fun x hx => by have := hsz.2.2 x hx; omega) (h.below hb)
 have ih' : ∀ x ∈ v.kids, ∀ (w : World) (u : Value) (m : Nat), m ≤ 64 → Utf.Laid w → HoldV w u x → Calls Tryz.prog 52 #[u, .int .i64 m] w (Tells (deep x ≤ m ∧ Whole x) w) := fun x hx => ih x hx (hkid x hx)
 have hI := fun (ho : Own v) (h0 : 0 < m) => within_iff ho h0
 have hWO := fun (h : Whole v) => (whole_iff.1 h).1
 have hdp := deep_pos v
 clear ih hkid hsz
 generalize hp : (deep v ≤ m ∧ Whole v) = p at *
 have hp0 : m = 0 → ¬ p := fun h0 h => by rw [← hp] at h; omega
 have hpo : p → Own v := fun h => by rw [← hp] at h; exact hWO h.2
 clear hp hWO hdp
 generalize Own v = q at *
 obtain ⟨k, b, n, s, ks, vs⟩ := v
 have ih' : ∀ x ∈ vs, ∀ (w : World) (u : Value) (m : Nat), m ≤ 64 → Utf.Laid w → HoldV w u x → Calls Tryz.prog 52 #[u, .int .i64 m] w (Tells (deep x ≤ m ∧ Whole x) w) := ih'
 have hI : q → 0 < m → (p ↔ ∀ x ∈ vs, deep x ≤ m - 1 ∧ Whole x) := hI
 obtain ⟨cs, rfl, hc⟩ := h
 rw [Hold] at hc
 obtain ⟨uk, a, c, rfl, ⟨pk, ck, rfl, -⟩, hcap, hmax, hv⟩ := hc
 have hF : ∀ wx, Below w.heap.size w wx → Calls Tryz.prog 77 #[.agg #[.int .i64 k, .bool b, .bool n.neg, .string (txt n.dig), .int .i64 n.exp, .string (txt s), .slice pk ks.length ck, .slice a vs.length c]] wx (Tells q wx) := hF
 show Calls Tryz.prog 52 #[.agg #[.int .i64 k, .bool b, .bool n.neg, .string (txt n.dig), .int .i64 n.exp, .string (txt s), .slice pk ks.length ck, .slice a vs.length c], .int .i64 m] w _
 have hA := World.alloc_heap_new w (.cells #[.int .i64 k, .bool b, .bool n.neg, .string (txt n.dig), .int .i64 n.exp, .string (txt s), .slice pk ks.length ck, .slice a vs.length c] 29)
 have bA : Below w.heap.size w (w.alloc (.cells #[.int .i64 k, .bool b, .bool n.neg, .string (txt n.dig), .int .i64 n.exp, .string (txt s), .slice pk ks.length ck, .slice a vs.length c] 29)) := (Below.refl _ w).alloc (Nat.le_refl _) _
 have HIH := Lib.hid ih'
 have HI := Lib.hid hI
 have HP := Lib.hid hpo
 have HP0 := Lib.hid hp0
 have HF := Lib.hid (hF _ bA)
 clear ih' hI hpo hp0 hF
 obtain ⟨c0, c1, c2, c3, c4, c5, c6, c7⟩ := eight hA
 by_cases h0 : m = 0
 · have HN := Lib.hid (HP0.out h0)
   subst h0
   clear hm64 HP0
   go_enter Tryz.func52, Tryz.ntmps52
   go_wp2_with fail
   go_ret
   exact .no HN.out bA
 · have h0' : (((m : Nat) : Int) == 0) = false := by simp; omega
   have HM := Lib.hid (show 0 < m from by omega)
   clear h0
   go_enter Tryz.func52, Tryz.ntmps52
   go_wp2_with fail
   refine HF.out.mono ?_
   rintro e w1 ⟨⟨r, rfl, hr⟩, k1⟩
   have b1 := bA.trans (k1.mono bA.size)
   have hA1 := (k1.block _ (lt_of_heap hA)).trans hA
   clear c0 c1 c2 c3 c4 c5 c6 c7 hA bA k1
   obtain ⟨c0, c1, c2, c3, c4, c5, c6, c7⟩ := eight hA1
   cases r with
   | false =>
     have HR := Lib.hid (show ¬ p from fun h => absurd (hr.2 (HP.out h)) (by decide))
     clear hr
     go_wp2_with fail
     go_ret
     exact .no HR.out b1
   | true =>
     have HR := Lib.hid (HI.out (hr.1 rfl) HM.out)
     clear hr
     go_wp2_with fail
     clear c0 c1 c2 c3 c4 c5 c6 c7 hA1
     go_loopw [17] (fun y wr => ∃ j : Nat, j ≤ vs.length ∧ y = .int .i64 j ∧ (∀ x ∈ vs.take j, deep x ≤ m - 1 ∧ Whole x) ∧ Below w.heap.size w wr) (fun y _ => vs.length - (intOf y).toNat)
     case atStart => exact ⟨0, Nat.zero_le _, rfl, by simp, b1⟩
     case round =>
       obtain ⟨j, hj, rfl, hall, bB⟩ := hrel
       clear b1
       by_cases hlt : j < vs.length
       · have hlt' : (j : Int) < (vs.length : Int) := by omega
         rcases hv with rfl | ⟨g, off, rfl, hg, hx⟩
         · exact absurd hlt (Nat.not_lt_zero _)
         obtain ⟨cs8, h8, hh⟩ := Holds.at hx (List.getElem?_eq_getElem hlt)
         have hcall := HIH.out vs[j] (List.getElem_mem hlt)
         have hst : vs.take (j + 1) = vs.take j ++ [vs[j]] := List.take_succ_eq_append_getElem hlt
         have hmem := List.getElem_mem hlt
         generalize vs[j] = x at *
         have h8' := h8.below hg bB
         have hh' := Hold.below bB x hh
         have HALL := Lib.hid hall
         have HST := Lib.hid hst
         have HMEM := Lib.hid hmem
         have HX := Lib.hid hx
         clear hh h8 hall hst hmem hx
         obtain ⟨k', b', n', s', ks', vs'⟩ := x
         have hh2 := hh'
         rw [Hold] at hh2
         obtain ⟨uk', a', c', rfl, ⟨pk', ck', rfl, -⟩, -, -, -⟩ := hh2
         obtain ⟨d0, d1, d2, d3, d4, d5, d6, d7⟩ := h8'.cells
         have hA2 := World.alloc_heap_new wr (.cells #[.int .i64 k', .bool b', .bool n'.neg, .string (txt n'.dig), .int .i64 n'.exp, .string (txt s'), .slice pk' ks'.length ck', .slice a' vs'.length c'] 29)
         obtain ⟨wB, hwB⟩ : ∃ wB, wr.alloc (.cells #[.int .i64 k', .bool b', .bool n'.neg, .string (txt n'.dig), .int .i64 n'.exp, .string (txt s'), .slice pk' ks'.length ck', .slice a' vs'.length c'] 29) = wB := ⟨_, rfl⟩
         have bC : Below wr.heap.size wr wB := by
           rw [← hwB]
           exact (Below.refl _ wr).alloc (Nat.le_refl _) _
         rw [hwB] at hA2
         have HW := Lib.hid hwB
         clear hwB
         obtain ⟨e0, e1, e2, e3, e4, e5, e6, e7⟩ := eight hA2
         have hbb := bB.trans (bC.mono bB.size)
         have hcall' := hcall wB (.agg #[.int .i64 k', .bool b', .bool n'.neg, .string (txt n'.dig), .int .i64 n'.exp, .string (txt s'), .slice pk' ks'.length ck', .slice a' vs'.length c']) (m - 1) (by omega) (ho.below hbb ho.lt) ⟨_, rfl, Hold.below bC _ hh'⟩
         generalize hpx : (deep ⟨k', b', n', s', ks', vs'⟩ ≤ m - 1 ∧ Whole ⟨k', b', n', s', ks', vs'⟩) = px at hcall'
         have HPX := Lib.hid hpx
         clear hh' h8' hcall hpx
         have hgl := Nat.lt_of_lt_of_le hg bB.size
         have wk : IntKind.i64.wrap ((j : Int) + 1) = (j : Int) + 1 := by simp only [IntKind.wrap, IntKind.signed, IntKind.bits]; simp; omega
         have wm : IntKind.i64.wrap ((m : Int) - 1) = ((m - 1 : Nat) : Int) := by
           have := HM.out
           rw [wrap_id (by omega) (by omega)]
           omega
         have HC := Lib.hid hcall'
         clear hcall'
         go_wp2_with fail
         rw [HW.out]
         go_wp2_with fail
         refine HC.out.mono ?_
         rintro e w2 ⟨⟨r, rfl, hr⟩, k2⟩
         have b2 := hbb.trans (k2.mono hbb.size)
         cases r with
         | true =>
           have HQ := Lib.hid (hr.1 rfl)
           clear hr
           go_wp2_with fail
           go_roundw
           case rel =>
             refine ⟨j + 1, by omega, by go_num, fun y hy => ?_, b2⟩
             rw [HST.out] at hy
             rcases List.mem_append.1 hy with h | h
             · exact HALL.out y h
             · rw [List.mem_singleton.1 h]
               have := HQ.out
               rwa [← HPX.out] at this
           case measure => simp [intOf]; omega
         | false =>
           have HQ := Lib.hid (show ¬ p from fun h => by
             have h1 := HR.out.1 h _ HMEM.out
             rw [HPX.out] at h1
             exact absurd (hr.2 h1) (by decide))
           clear hr
           go_wp2_with fail
           go_ret
           exact .no HQ.out b2
       · obtain rfl : j = vs.length := by omega
         rw [List.take_length] at hall
         have HALL := Lib.hid hall
         clear hall
         go_wp2_with fail
         go_ret
         exact .yes (HR.out.2 HALL.out) bB
set_option maxRecDepth 100000 in
set_option maxHeartbeats 4000000 in
theorem tright_of {v : Val} {w : World} {u : Value} (hm : Mild v) (ho : Utf.Laid w) (h : HoldV w u v) : Calls Tryz.prog 31 #[u] w (Tells (Right v) w) := by
 have hW := fun (wx : World) (hb : Below w.heap.size w wx) => rgwithin_any v hm wx u 64 (Nat.le_refl _) (ho.below hb ho.lt) (h.below hb)
 unfold Right
 generalize (deep v ≤ 64 ∧ Whole v) = p at *
 obtain ⟨pk, ck, a, c, rfl⟩ := holdV_form h
 have bA : Below w.heap.size w (w.alloc (.cells #[.int .i64 v.kind, .bool v.is, .bool v.num.neg, .string (txt v.num.dig), .int .i64 v.num.exp, .string (txt v.str), .slice pk v.keys.length ck, .slice a v.kids.length c] 29)) := (Below.refl _ w).alloc (Nat.le_refl _) _
 have hA := World.alloc_heap_new w (.cells #[.int .i64 v.kind, .bool v.is, .bool v.num.neg, .string (txt v.num.dig), .int .i64 v.num.exp, .string (txt v.str), .slice pk v.keys.length ck, .slice a v.kids.length c] 29)
 obtain ⟨c0, c1, c2, c3, c4, c5, c6, c7⟩ := eight hA
 have hW1 := hW _ bA
 clear hW
 go_enter Tryz.func31, Tryz.ntmps31
 go_wp2_with fail
 refine hW1.mono ?_
 rintro e w1 ⟨⟨r, rfl, hr⟩, k1⟩
 have HR := Lib.hid hr
 clear hr
 go_wp2_with fail
 go_ret
 exact ⟨⟨_, rfl, HR.out⟩, bA.trans (k1.mono bA.size)⟩
end Go.Proofs.YtlfbnfphocpgeaaGreatDoor.Tre
