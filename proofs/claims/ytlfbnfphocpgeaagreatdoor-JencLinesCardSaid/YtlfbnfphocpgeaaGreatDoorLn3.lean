/- A part of what lines_holds leans on (its texts, put together). Nothing is claimed here. -/
import Derived.Lib.Hide
import Derived.Deep.RegionLaw
import Derived.Deep.RegionHeld3
import Derived.Test.YtlfbnfphocpgeaaGreatDoorLn2
namespace Go.Proofs.YtlfbnfphocpgeaaGreatDoor.Tre
open Go.RowKit Kit Txt Go.Maps
open Num (Dec zero)
theorem uvalid_any {w : World} (ho : Utf.Laid w) {l : List UInt8} (hl : l.length < 1000000000) : Calls Tryz.prog 112 #[.string (txt l)] w fun e w' => e = .returned (.bool (decide (Utf.bad l = none))) ∧ Below w.heap.size w w' := by
  have h := Utf.valid_any (w := w) (s := txt l) (by rw [txt_size]; omega) ho
  rw [txt_list, decide_eq_decide.2 (Utf.badI_neg l)] at h
  exact h
set_option maxRecDepth 100000 in
set_option maxHeartbeats 4000000 in
theorem rgkeys_any {w : World} (ho : Utf.Laid w) {u : Value} {ks : List (List UInt8)} (hs : ∀ x ∈ ks, x.length < 1000000000) (h : Ks w u ks) : Calls Tryz.prog 113 #[u] w (Tells ((∀ x ∈ ks, Utf.bad x = none) ∧ ks.Nodup) w) := by
  obtain ⟨a, c, rfl, hc, hm, hx⟩ := h
  have hn : ks.length ≤ 9223372036854775807 := Nat.le_trans hc hm
  have hmm := @run_makeMap Tryz.prog
  have hM := Seen.made w ks
  have bM : Below w.heap.size w (w.alloc (.map #[] 0)) := (Below.refl _ w).alloc (Nat.le_refl _) _
  go_enter Tryz.func113, Tryz.ntmps113
  go_wp2_with fail
  go_loopw [9] (fun y wr => ∃ j : Nat, j ≤ ks.length ∧ y = .int .i64 j ∧ Seen wr w.heap.size j ks ∧ (∀ x ∈ ks.take j, Utf.bad x = none) ∧ (ks.take j).Nodup ∧ Below w.heap.size w wr) (fun y _ => ks.length - (intOf y).toNat)
  case atStart => exact ⟨0, Nat.zero_le _, rfl, hM, by simp, by simp, bM⟩
  case round =>
    obtain ⟨j, hj, rfl, hS, hall, hnd, bB⟩ := hrel
    clear hM bM hmm
    by_cases hlt : j < ks.length
    · have hlt' : (j : Int) < (ks.length : Int) := by omega
      rcases hx with rfl | ⟨g, off, rfl, hg, hx⟩
      · exact absurd hlt (Nat.not_lt_zero _)
      have hcell := (bB.cell (p := ⟨g, off + j, none⟩) hg).trans (hx j _ (List.getElem?_eq_getElem hlt))
      have hl := hs _ (List.getElem_mem hlt)
      have hlook := hS.look hl (by kernel_rfl)
      have hv := uvalid_any (ho.below bB (ho.lt)) hl
      have hput := fun (w1 : World) (hb : Below wr.heap.size wr w1) => (hS.grown hb).put hlt hn hl
      have hsub : ∀ x ∈ ks.take (j + 1), Utf.bad x = none → x ∈ ks.take (j + 1) := fun x h _ => h
      have hst : ks.take (j + 1) = ks.take j ++ [ks[j]] := List.take_succ_eq_append_getElem hlt
      have hmem : ks[j] ∈ ks := List.getElem_mem hlt
      have hdup : ks[j] ∈ ks.take j → ¬ ks.Nodup := fun hin hnd2 => by
        have h2 : (ks.take (j + 1)).Nodup := hnd2.sublist (List.take_sublist _ _)
        rw [hst, List.nodup_append] at h2
        exact h2.2.2 _ hin _ (by simp) rfl
      generalize ks[j] = l at *
      have wk : IntKind.i64.wrap ((j : Int) + 1) = (j : Int) + 1 := by simp only [IntKind.wrap, IntKind.signed, IntKind.bits]; simp; omega
      have HX := Lib.hid hx
      have HS := Lib.hid hs
      have HA := Lib.hid hall
      have HND := Lib.hid hnd
      have HST := Lib.hid hst
      clear hx hs hall hnd hst hsub
      by_cases hin : l ∈ ks.take j
      · have HNO := Lib.hid (hdup hin)
        simp only [hin, decide_true] at hlook
        clear hin hdup hv hput hmem
        go_wp2_with fail
        go_ret
        exact .no (fun h => HNO.out h.2) bB
      · simp only [hin, decide_false] at hlook
        have HIN := Lib.hid hin
        clear hin hdup
        by_cases hb : Utf.bad l = none
        · have HB := Lib.hid hb
          simp only [hb, decide_true] at hv
          clear hb
          go_wp2_with fail
          refine hv.mono ?_
          rintro e w1 ⟨rfl, k1⟩
          obtain ⟨w2, hrun, hS2, hg2⟩ := hput w1 k1
          have hS1 := hS.grown k1
          have b1 := bB.trans (k1.mono bB.size)
          have b2 : Below w.heap.size w w2 := b1.grown hg2 b1.size (fun k e => by cases e; exact Nat.le_refl _)
          go_wp2_with fail
          go_roundw
          case rel =>
            refine ⟨j + 1, by omega, by go_num, hS2, fun x hx => ?_, ?_, b2⟩
            · rw [HST.out] at hx
              rcases List.mem_append.1 hx with h | h
              · exact HA.out x h
              · rw [List.mem_singleton.1 h]
                exact HB.out
            · rw [HST.out, List.nodup_append]
              refine ⟨HND.out, by simp, fun a ha b hb => ?_⟩
              rw [List.mem_singleton.1 hb]
              rintro rfl
              exact HIN.out ha
          case measure => simp [intOf]; omega
        · have HNO := Lib.hid (show ¬ ((∀ x ∈ ks, Utf.bad x = none) ∧ ks.Nodup) from fun h => hb (h.1 l hmem))
          simp only [hb, decide_false] at hv
          clear hb hput hmem
          go_wp2_with fail
          refine hv.mono ?_
          rintro e w1 ⟨rfl, k1⟩
          have b1 := bB.trans (k1.mono bB.size)
          go_wp2_with fail
          go_ret
          exact .no HNO.out b1
    · obtain rfl : j = ks.length := by omega
      rw [List.take_length] at hall hnd
      have HA := Lib.hid hall
      have HND := Lib.hid hnd
      clear hall hnd hs
      go_wp2_with fail
      go_ret
      exact .yes ⟨HA.out, HND.out⟩ bB
end Go.Proofs.YtlfbnfphocpgeaaGreatDoor.Tre
namespace Go.Proofs.YtlfbnfphocpgeaaGreatDoor.Tre
open Go.RowKit Kit Txt Go.Maps
open Num (Dec zero)
theorem zero_right : Num.Right zero := by decide
theorem bad_nil : Utf.bad [] = none := by unfold Utf.bad; rw [Utf.scan_nil]
theorem own_eq (k : Int) (b : Bool) (n : Dec) (s : List UInt8) (ks : List (List UInt8)) (vs : List Val) : Own ⟨k, b, n, s, ks, vs⟩ ↔ 1 ≤ k ∧ k ≤ 6 ∧ (k ≠ 2 → b = false) ∧ (k ≠ 3 → n = zero) ∧ (k ≠ 4 → s = []) ∧ (k < 5 → vs = []) ∧ (k ≠ 6 → ks = []) ∧ Num.Right n ∧ Utf.bad s = none ∧ (k = 6 → ks.length = vs.length) ∧ (∀ x ∈ ks, Utf.bad x = none) ∧ ks.Nodup := Iff.rfl
theorem own1 (b : Bool) (n : Dec) (s : List UInt8) (ks : List (List UInt8)) (vs : List Val) : Own ⟨1, b, n, s, ks, vs⟩ ↔ Val.mk 0 b n s ks vs = none' := by
  rw [own_eq]
  unfold none'
  constructor
  · rintro ⟨-, -, h1, h2, h3, h4, h5, -⟩
    rw [h1 (by decide), h2 (by decide), h3 (by decide), h4 (by decide), h5 (by decide)]
  · intro h
    injection h with _ h1 h2 h3 h4 h5
    subst h1; subst h2; subst h3; subst h4; subst h5
    exact ⟨by decide, by decide, fun _ => rfl, fun _ => rfl, fun _ => rfl, fun _ => rfl, fun _ => rfl, zero_right, bad_nil, fun h => absurd h (by decide), fun x hx => absurd hx List.not_mem_nil, List.nodup_nil⟩
theorem own2 (b : Bool) (n : Dec) (s : List UInt8) (ks : List (List UInt8)) (vs : List Val) : Own ⟨2, b, n, s, ks, vs⟩ ↔ Val.mk 0 false n s ks vs = none' := by
  rw [own_eq]
  unfold none'
  constructor
  · rintro ⟨-, -, h1, h2, h3, h4, h5, -⟩
    rw [h2 (by decide), h3 (by decide), h4 (by decide), h5 (by decide)]
  · intro h
    injection h with _ _ h2 h3 h4 h5
    subst h2; subst h3; subst h4; subst h5
    exact ⟨by decide, by decide, fun h => absurd rfl h, fun _ => rfl, fun _ => rfl, fun _ => rfl, fun _ => rfl, zero_right, bad_nil, fun h => absurd h (by decide), fun x hx => absurd hx List.not_mem_nil, List.nodup_nil⟩
theorem own3 (b : Bool) (n : Dec) (s : List UInt8) (ks : List (List UInt8)) (vs : List Val) : Own ⟨3, b, n, s, ks, vs⟩ ↔ Num.Right n ∧ Val.mk 0 b zero s ks vs = none' := by
  rw [own_eq]
  unfold none'
  constructor
  · rintro ⟨-, -, h1, h2, h3, h4, h5, h6, -⟩
    exact ⟨h6, by rw [h1 (by decide), h3 (by decide), h4 (by decide), h5 (by decide)]⟩
  · rintro ⟨h6, h⟩
    injection h with _ h1 _ h3 h4 h5
    subst h1; subst h3; subst h4; subst h5
    exact ⟨by decide, by decide, fun _ => rfl, fun h => absurd rfl h, fun _ => rfl, fun _ => rfl, fun _ => rfl, h6, bad_nil, fun h => absurd h (by decide), fun x hx => absurd hx List.not_mem_nil, List.nodup_nil⟩
theorem own4 (b : Bool) (n : Dec) (s : List UInt8) (ks : List (List UInt8)) (vs : List Val) : Own ⟨4, b, n, s, ks, vs⟩ ↔ Utf.bad s = none ∧ Val.mk 0 b n [] ks vs = none' := by
  rw [own_eq]
  unfold none'
  constructor
  · rintro ⟨-, -, h1, h2, h3, h4, h5, -, h6, -⟩
    exact ⟨h6, by rw [h1 (by decide), h2 (by decide), h4 (by decide), h5 (by decide)]⟩
  · rintro ⟨h6, h⟩
    injection h with _ h1 h2 _ h4 h5
    subst h1; subst h2; subst h4; subst h5
    exact ⟨by decide, by decide, fun _ => rfl, fun _ => rfl, fun h => absurd rfl h, fun _ => rfl, fun _ => rfl, zero_right, h6, fun h => absurd h (by decide), fun x hx => absurd hx List.not_mem_nil, List.nodup_nil⟩
theorem own5 (b : Bool) (n : Dec) (s : List UInt8) (ks : List (List UInt8)) (vs : List Val) : Own ⟨5, b, n, s, ks, vs⟩ ↔ Val.mk 0 b n s ks [] = none' := by
  rw [own_eq]
  unfold none'
  constructor
  · rintro ⟨-, -, h1, h2, h3, -, h5, -⟩
    rw [h1 (by decide), h2 (by decide), h3 (by decide), h5 (by decide)]
  · intro h
    injection h with _ h1 h2 h3 h4 _
    subst h1; subst h2; subst h3; subst h4
    exact ⟨by decide, by decide, fun _ => rfl, fun _ => rfl, fun _ => rfl, fun h => absurd h (by decide), fun _ => rfl, zero_right, bad_nil, fun h => absurd h (by decide), fun x hx => absurd hx List.not_mem_nil, List.nodup_nil⟩
theorem own6 (b : Bool) (n : Dec) (s : List UInt8) (ks : List (List UInt8)) (vs : List Val) : Own ⟨6, b, n, s, ks, vs⟩ ↔ ks.length = vs.length ∧ ((∀ x ∈ ks, Utf.bad x = none) ∧ ks.Nodup) ∧ Val.mk 0 b n s [] [] = none' := by
  rw [own_eq]
  unfold none'
  constructor
  · rintro ⟨-, -, h1, h2, h3, -, -, -, -, h6, h7, h8⟩
    exact ⟨h6 rfl, ⟨h7, h8⟩, by rw [h1 (by decide), h2 (by decide), h3 (by decide)]⟩
  · rintro ⟨h6, ⟨h7, h8⟩, h⟩
    injection h with _ h1 h2 h3 _ _
    subst h1; subst h2; subst h3
    exact ⟨by decide, by decide, fun _ => rfl, fun _ => rfl, fun _ => rfl, fun h => absurd h (by decide), fun h => absurd rfl h, zero_right, bad_nil, fun _ => h6, h7, h8⟩
set_option maxRecDepth 100000 in
set_option maxHeartbeats 16000000 in
theorem rgfields_any {v : Val} {w : World} {u : Value} (ho : Utf.Laid w) (hs1 : v.str.length < 1000000000) (hs2 : v.num.dig.length < 1000000000) (hs3 : ∀ x ∈ v.keys, x.length < 1000000000) (h : HoldV w u v) :
    Calls Tryz.prog 77 #[u] w (Tells (Own v) w) := by
  obtain ⟨k, b, n, s, ks, vs⟩ := v
  obtain ⟨cs, rfl, hc⟩ := h
  rw [Hold] at hc
  obtain ⟨uk, a, c, rfl, hk, hv⟩ := hc
  unfold Val.str at hs1
  unfold Val.num at hs2
  unfold Val.keys at hs3
  dsimp only at hs1 hs2 hs3
  have hk' := hk
  obtain ⟨pk, ck, rfl, hck, hmk, -⟩ := hk'
  have hnk : Ks w (.slice none 0 0) [] := ⟨none, 0, rfl, Nat.le_refl _, by omega, .inl rfl⟩
  have hnv : Kids w none 0 [] := ⟨Nat.le_refl _, by omega, .inl rfl⟩
  have hv : Kids w a c vs := hv
  have hv1 := hv.1
  have hv2 := hv.2.1
  show Calls Tryz.prog 77 #[.agg #[.int .i64 k, .bool b, .bool n.neg, .string (txt n.dig), .int .i64 n.exp, .string (txt s), .slice pk ks.length ck, .slice a vs.length c]] w _
  have hA := fun o : Obj => new_of (World.alloc_heap_new w (.cells #[.int .i64 k, .bool b, .bool n.neg, .string (txt n.dig), .int .i64 n.exp, .string (txt s), .slice pk ks.length ck, .slice a vs.length c] 29)) o
  have hB := fun o : Obj => World.alloc_heap_new (w.alloc (.cells #[.int .i64 k, .bool b, .bool n.neg, .string (txt n.dig), .int .i64 n.exp, .string (txt s), .slice pk ks.length ck, .slice a vs.length c] 29)) o
  simp only [World.size_alloc] at hB
  have bW := fun o : Obj => ((Below.refl w.heap.size w).alloc (Nat.le_refl _) (.cells #[.int .i64 k, .bool b, .bool n.neg, .string (txt n.dig), .int .i64 n.exp, .string (txt s), .slice pk ks.length ck, .slice a vs.length c] 29)).alloc (by simp) o
  by_cases k1 : k = 1
  · subst k1
    have hO := own1 b n s ks vs
    have hA := hA (.cells #[.int .i64 0, .bool b, .bool n.neg, .string (txt n.dig), .int .i64 n.exp, .string (txt s), .slice pk ks.length ck, .slice a vs.length c] 29)
    have hB := hB (.cells #[.int .i64 0, .bool b, .bool n.neg, .string (txt n.dig), .int .i64 n.exp, .string (txt s), .slice pk ks.length ck, .slice a vs.length c] 29)
    have bW := bW (.cells #[.int .i64 0, .bool b, .bool n.neg, .string (txt n.dig), .int .i64 n.exp, .string (txt s), .slice pk ks.length ck, .slice a vs.length c] 29)
    have hsame := fun (wx : World) (hb : Below w.heap.size w wx) => tsame_of (Val.mk 0 b n s ks vs) none' wx (.agg #[.int .i64 0, .bool b, .bool n.neg, .string (txt n.dig), .int .i64 n.exp, .string (txt s), .slice pk ks.length ck, .slice a vs.length c]) _ ⟨_, rfl, by rw [Hold]; exact ⟨_, _, _, rfl, hk.below hb, hv.below hb⟩⟩ (hold_none wx)
    obtain ⟨W, hW⟩ : ∃ W, (w.alloc (.cells #[.int .i64 1, .bool b, .bool n.neg, .string (txt n.dig), .int .i64 n.exp, .string (txt s), .slice pk ks.length ck, .slice a vs.length c] 29)).alloc (.cells #[.int .i64 0, .bool b, .bool n.neg, .string (txt n.dig), .int .i64 n.exp, .string (txt s), .slice pk ks.length ck, .slice a vs.length c] 29) = W := ⟨_, rfl⟩
    rw [hW] at hA hB bW
    have HW := Lib.hid hW
    clear hW
    obtain ⟨c0, c1, c2, c3, c4, c5, c6, c7⟩ := eight hA
    obtain ⟨d0, d1, d2, d3, d4, d5, d6, d7⟩ := eight hB
    have HS := Lib.hid hsame
    have HO := Lib.hid hO
    clear hsame hO hs1 hs2 hs3 hk hv hnk hnv
    go_enter Tryz.func77, Tryz.ntmps77
    go_wp2_with fail
    rw [HW.out]
    go_wp2_with fail
    refine (HS.out _ bW).mono ?_
    rintro e wz ⟨⟨r, rfl, hr⟩, kz⟩
    have bz := bW.trans (kz.mono bW.size)
    cases r with
    | true =>
      have HR := Lib.hid (hr.1 rfl)
      clear hr
      go_wp2_with fail
      go_ret
      exact .yes (HO.out.2 HR.out) bz
    | false =>
      have HR := Lib.hid (fun h => (absurd (hr.2 h) (by decide) : False))
      clear hr
      go_wp2_with fail
      go_ret
      exact .no (fun h => HR.out (HO.out.1 h)) bz
  by_cases k2 : k = 2
  · subst k2
    have hO := own2 b n s ks vs
    have hA := hA (.cells #[.int .i64 0, .bool false, .bool n.neg, .string (txt n.dig), .int .i64 n.exp, .string (txt s), .slice pk ks.length ck, .slice a vs.length c] 29)
    have hB := hB (.cells #[.int .i64 0, .bool false, .bool n.neg, .string (txt n.dig), .int .i64 n.exp, .string (txt s), .slice pk ks.length ck, .slice a vs.length c] 29)
    have bW := bW (.cells #[.int .i64 0, .bool false, .bool n.neg, .string (txt n.dig), .int .i64 n.exp, .string (txt s), .slice pk ks.length ck, .slice a vs.length c] 29)
    have hsame := fun (wx : World) (hb : Below w.heap.size w wx) => tsame_of (Val.mk 0 false n s ks vs) none' wx (.agg #[.int .i64 0, .bool false, .bool n.neg, .string (txt n.dig), .int .i64 n.exp, .string (txt s), .slice pk ks.length ck, .slice a vs.length c]) _ ⟨_, rfl, by rw [Hold]; exact ⟨_, _, _, rfl, hk.below hb, hv.below hb⟩⟩ (hold_none wx)
    obtain ⟨W, hW⟩ : ∃ W, (w.alloc (.cells #[.int .i64 2, .bool b, .bool n.neg, .string (txt n.dig), .int .i64 n.exp, .string (txt s), .slice pk ks.length ck, .slice a vs.length c] 29)).alloc (.cells #[.int .i64 0, .bool false, .bool n.neg, .string (txt n.dig), .int .i64 n.exp, .string (txt s), .slice pk ks.length ck, .slice a vs.length c] 29) = W := ⟨_, rfl⟩
    rw [hW] at hA hB bW
    have HW := Lib.hid hW
    clear hW
    obtain ⟨c0, c1, c2, c3, c4, c5, c6, c7⟩ := eight hA
    obtain ⟨d0, d1, d2, d3, d4, d5, d6, d7⟩ := eight hB
    have HS := Lib.hid hsame
    have HO := Lib.hid hO
    clear hsame hO hs1 hs2 hs3 hk hv hnk hnv
    go_enter Tryz.func77, Tryz.ntmps77
    go_wp2_with fail
    rw [HW.out]
    go_wp2_with fail
    refine (HS.out _ bW).mono ?_
    rintro e wz ⟨⟨r, rfl, hr⟩, kz⟩
    have bz := bW.trans (kz.mono bW.size)
    cases r with
    | true =>
      have HR := Lib.hid (hr.1 rfl)
      clear hr
      go_wp2_with fail
      go_ret
      exact .yes (HO.out.2 HR.out) bz
    | false =>
      have HR := Lib.hid (fun h => (absurd (hr.2 h) (by decide) : False))
      clear hr
      go_wp2_with fail
      go_ret
      exact .no (fun h => HR.out (HO.out.1 h)) bz
  by_cases k5 : k = 5
  · subst k5
    have hO := own5 b n s ks vs
    have hA := hA (.cells #[.int .i64 0, .bool b, .bool n.neg, .string (txt n.dig), .int .i64 n.exp, .string (txt s), .slice pk ks.length ck, .slice none 0 0] 29)
    have hB := hB (.cells #[.int .i64 0, .bool b, .bool n.neg, .string (txt n.dig), .int .i64 n.exp, .string (txt s), .slice pk ks.length ck, .slice none 0 0] 29)
    have bW := bW (.cells #[.int .i64 0, .bool b, .bool n.neg, .string (txt n.dig), .int .i64 n.exp, .string (txt s), .slice pk ks.length ck, .slice none 0 0] 29)
    have hsame := fun (wx : World) (hb : Below w.heap.size w wx) => tsame_of (Val.mk 0 b n s ks []) none' wx (.agg #[.int .i64 0, .bool b, .bool n.neg, .string (txt n.dig), .int .i64 n.exp, .string (txt s), .slice pk ks.length ck, .slice none 0 0]) _ ⟨_, rfl, by rw [Hold]; exact ⟨_, _, _, rfl, hk.below hb, hnv.below hb⟩⟩ (hold_none wx)
    obtain ⟨W, hW⟩ : ∃ W, (w.alloc (.cells #[.int .i64 5, .bool b, .bool n.neg, .string (txt n.dig), .int .i64 n.exp, .string (txt s), .slice pk ks.length ck, .slice a vs.length c] 29)).alloc (.cells #[.int .i64 0, .bool b, .bool n.neg, .string (txt n.dig), .int .i64 n.exp, .string (txt s), .slice pk ks.length ck, .slice none 0 0] 29) = W := ⟨_, rfl⟩
    rw [hW] at hA hB bW
    have HW := Lib.hid hW
    clear hW
    obtain ⟨c0, c1, c2, c3, c4, c5, c6, c7⟩ := eight hA
    obtain ⟨d0, d1, d2, d3, d4, d5, d6, d7⟩ := eight hB
    have HS := Lib.hid hsame
    have HO := Lib.hid hO
    clear hsame hO hs1 hs2 hs3 hk hv hnk hnv
    go_enter Tryz.func77, Tryz.ntmps77
    go_wp2_with fail
    rw [HW.out]
    go_wp2_with fail
    refine (HS.out _ bW).mono ?_
    rintro e wz ⟨⟨r, rfl, hr⟩, kz⟩
    have bz := bW.trans (kz.mono bW.size)
    cases r with
    | true =>
      have HR := Lib.hid (hr.1 rfl)
      clear hr
      go_wp2_with fail
      go_ret
      exact .yes (HO.out.2 HR.out) bz
    | false =>
      have HR := Lib.hid (fun h => (absurd (hr.2 h) (by decide) : False))
      clear hr
      go_wp2_with fail
      go_ret
      exact .no (fun h => HR.out (HO.out.1 h)) bz
  by_cases k3 : k = 3
  · subst k3
    have hO := own3 b n s ks vs
    have hA := hA (.cells #[.int .i64 0, .bool b, .bool false, .string ⟨#[]⟩, .int .i64 0, .string (txt s), .slice pk ks.length ck, .slice a vs.length c] 29)
    have hB := hB (.cells #[.int .i64 0, .bool b, .bool false, .string ⟨#[]⟩, .int .i64 0, .string (txt s), .slice pk ks.length ck, .slice a vs.length c] 29)
    have bW := bW (.cells #[.int .i64 0, .bool b, .bool false, .string ⟨#[]⟩, .int .i64 0, .string (txt s), .slice pk ks.length ck, .slice a vs.length c] 29)
    have hsame := fun (wx : World) (hb : Below w.heap.size w wx) => tsame_of (Val.mk 0 b zero s ks vs) none' wx (.agg #[.int .i64 0, .bool b, .bool false, .string ⟨#[]⟩, .int .i64 0, .string (txt s), .slice pk ks.length ck, .slice a vs.length c]) _ ⟨_, rfl, by rw [Hold]; exact ⟨_, _, _, rfl, hk.below hb, hv.below hb⟩⟩ (hold_none wx)
    obtain ⟨W, hW⟩ : ∃ W, (w.alloc (.cells #[.int .i64 3, .bool b, .bool n.neg, .string (txt n.dig), .int .i64 n.exp, .string (txt s), .slice pk ks.length ck, .slice a vs.length c] 29)).alloc (.cells #[.int .i64 0, .bool b, .bool false, .string ⟨#[]⟩, .int .i64 0, .string (txt s), .slice pk ks.length ck, .slice a vs.length c] 29) = W := ⟨_, rfl⟩
    rw [hW] at hA hB bW
    have HW := Lib.hid hW
    clear hW
    obtain ⟨c0, c1, c2, c3, c4, c5, c6, c7⟩ := eight hA
    obtain ⟨d0, d1, d2, d3, d4, d5, d6, d7⟩ := eight hB
    have HS := Lib.hid hsame
    have HO := Lib.hid hO
    have hn := fun (wx : World) => Num.nright_all (w := wx) hs2
    simp only [Num.numV] at hn
    clear hsame hO hs1 hs2 hs3 hk hv hnk hnv
    go_enter Tryz.func77, Tryz.ntmps77
    go_wp2_with fail
    rw [HW.out]
    go_wp2_with fail
    refine (hn W).mono ?_
    rintro e w1 ⟨rfl, k1⟩
    have b1 := bW.trans (k1.mono bW.size)
    have hB1 := (k1.block _ (lt_of_heap hB)).trans hB
    clear c0 c1 c2 c3 c4 c5 c6 c7 d0 d1 d2 d3 d4 d5 d6 d7 hA hB hn
    obtain ⟨d0, d1, d2, d3, d4, d5, d6, d7⟩ := eight hB1
    by_cases hr : Num.Right n
    · have HP := Lib.hid hr
      simp only [hr, decide_true]
      clear hr
      go_wp2_with fail
      refine (HS.out _ b1).mono ?_
      rintro e wz ⟨⟨r, rfl, hr⟩, kz⟩
      have bz := b1.trans (kz.mono b1.size)
      cases r with
      | true =>
        have HR := Lib.hid (hr.1 rfl)
        clear hr
        go_wp2_with fail
        go_ret
        exact .yes (HO.out.2 ⟨HP.out, HR.out⟩) bz
      | false =>
        have HR := Lib.hid (fun h => (absurd (hr.2 h) (by decide) : False))
        clear hr
        go_wp2_with fail
        go_ret
        exact .no (fun h => HR.out ((HO.out.1 h).2)) bz
    · have HP := Lib.hid hr
      simp only [hr, decide_false]
      clear hr
      go_wp2_with fail
      go_ret
      exact .no (fun h => HP.out (HO.out.1 h).1) b1
  by_cases k4 : k = 4
  · subst k4
    have hO := own4 b n s ks vs
    have hA := hA (.cells #[.int .i64 0, .bool b, .bool n.neg, .string (txt n.dig), .int .i64 n.exp, .string ⟨#[]⟩, .slice pk ks.length ck, .slice a vs.length c] 29)
    have hB := hB (.cells #[.int .i64 0, .bool b, .bool n.neg, .string (txt n.dig), .int .i64 n.exp, .string ⟨#[]⟩, .slice pk ks.length ck, .slice a vs.length c] 29)
    have bW := bW (.cells #[.int .i64 0, .bool b, .bool n.neg, .string (txt n.dig), .int .i64 n.exp, .string ⟨#[]⟩, .slice pk ks.length ck, .slice a vs.length c] 29)
    have hsame := fun (wx : World) (hb : Below w.heap.size w wx) => tsame_of (Val.mk 0 b n [] ks vs) none' wx (.agg #[.int .i64 0, .bool b, .bool n.neg, .string (txt n.dig), .int .i64 n.exp, .string ⟨#[]⟩, .slice pk ks.length ck, .slice a vs.length c]) _ ⟨_, rfl, by rw [Hold]; exact ⟨_, _, _, rfl, hk.below hb, hv.below hb⟩⟩ (hold_none wx)
    obtain ⟨W, hW⟩ : ∃ W, (w.alloc (.cells #[.int .i64 4, .bool b, .bool n.neg, .string (txt n.dig), .int .i64 n.exp, .string (txt s), .slice pk ks.length ck, .slice a vs.length c] 29)).alloc (.cells #[.int .i64 0, .bool b, .bool n.neg, .string (txt n.dig), .int .i64 n.exp, .string ⟨#[]⟩, .slice pk ks.length ck, .slice a vs.length c] 29) = W := ⟨_, rfl⟩
    rw [hW] at hA hB bW
    have HW := Lib.hid hW
    clear hW
    obtain ⟨c0, c1, c2, c3, c4, c5, c6, c7⟩ := eight hA
    obtain ⟨d0, d1, d2, d3, d4, d5, d6, d7⟩ := eight hB
    have HS := Lib.hid hsame
    have HO := Lib.hid hO
    have hn := fun (wx : World) (hb : Below w.heap.size w wx) => uvalid_any (w := wx) (ho.below hb ho.lt) hs1
    clear hsame hO hs1 hs2 hs3 hk hv hnk hnv
    go_enter Tryz.func77, Tryz.ntmps77
    go_wp2_with fail
    rw [HW.out]
    go_wp2_with fail
    refine (hn W bW).mono ?_
    rintro e w1 ⟨rfl, k1⟩
    have b1 := bW.trans (k1.mono bW.size)
    have hB1 := (k1.block _ (lt_of_heap hB)).trans hB
    clear c0 c1 c2 c3 c4 c5 c6 c7 d0 d1 d2 d3 d4 d5 d6 d7 hA hB hn
    obtain ⟨d0, d1, d2, d3, d4, d5, d6, d7⟩ := eight hB1
    by_cases hr : Utf.bad s = none
    · have HP := Lib.hid hr
      simp only [hr, decide_true]
      clear hr
      go_wp2_with fail
      refine (HS.out _ b1).mono ?_
      rintro e wz ⟨⟨r, rfl, hr⟩, kz⟩
      have bz := b1.trans (kz.mono b1.size)
      cases r with
      | true =>
        have HR := Lib.hid (hr.1 rfl)
        clear hr
        go_wp2_with fail
        go_ret
        exact .yes (HO.out.2 ⟨HP.out, HR.out⟩) bz
      | false =>
        have HR := Lib.hid (fun h => (absurd (hr.2 h) (by decide) : False))
        clear hr
        go_wp2_with fail
        go_ret
        exact .no (fun h => HR.out ((HO.out.1 h).2)) bz
    · have HP := Lib.hid hr
      simp only [hr, decide_false]
      clear hr
      go_wp2_with fail
      go_ret
      exact .no (fun h => HP.out (HO.out.1 h).1) b1
  by_cases k6 : k = 6
  · subst k6
    have hO := own6 b n s ks vs
    have hA := hA (.cells #[.int .i64 0, .bool b, .bool n.neg, .string (txt n.dig), .int .i64 n.exp, .string (txt s), .slice none 0 0, .slice none 0 0] 29)
    have hB := hB (.cells #[.int .i64 0, .bool b, .bool n.neg, .string (txt n.dig), .int .i64 n.exp, .string (txt s), .slice none 0 0, .slice none 0 0] 29)
    have bW := bW (.cells #[.int .i64 0, .bool b, .bool n.neg, .string (txt n.dig), .int .i64 n.exp, .string (txt s), .slice none 0 0, .slice none 0 0] 29)
    have hsame := fun (wx : World) (hb : Below w.heap.size w wx) => tsame_of (Val.mk 0 b n s [] []) none' wx (.agg #[.int .i64 0, .bool b, .bool n.neg, .string (txt n.dig), .int .i64 n.exp, .string (txt s), .slice none 0 0, .slice none 0 0]) _ ⟨_, rfl, by rw [Hold]; exact ⟨_, _, _, rfl, hnk.below hb, hnv.below hb⟩⟩ (hold_none wx)
    obtain ⟨W, hW⟩ : ∃ W, (w.alloc (.cells #[.int .i64 6, .bool b, .bool n.neg, .string (txt n.dig), .int .i64 n.exp, .string (txt s), .slice pk ks.length ck, .slice a vs.length c] 29)).alloc (.cells #[.int .i64 0, .bool b, .bool n.neg, .string (txt n.dig), .int .i64 n.exp, .string (txt s), .slice none 0 0, .slice none 0 0] 29) = W := ⟨_, rfl⟩
    rw [hW] at hA hB bW
    have HW := Lib.hid hW
    clear hW
    obtain ⟨c0, c1, c2, c3, c4, c5, c6, c7⟩ := eight hA
    obtain ⟨d0, d1, d2, d3, d4, d5, d6, d7⟩ := eight hB
    have HS := Lib.hid hsame
    have HO := Lib.hid hO
    have hn := fun (wx : World) (hb : Below w.heap.size w wx) => rgkeys_any (w := wx) (ho.below hb ho.lt) hs3 (hk.below hb)
    by_cases hl : ks.length = vs.length
    · have hl' : (((ks.length : Nat) : Int) == ((vs.length : Nat) : Int)) = true := by simp [hl]
      have HL := Lib.hid hl
      clear hl
      clear hsame hO hs1 hs2 hs3 hk hv hnk hnv
      go_enter Tryz.func77, Tryz.ntmps77
      go_wp2_with fail
      rw [HW.out]
      go_wp2_with fail
      refine (hn W bW).mono ?_
      rintro e w1 ⟨⟨r, rfl, hr⟩, k1⟩
      have b1 := bW.trans (k1.mono bW.size)
      have hB1 := (k1.block _ (lt_of_heap hB)).trans hB
      clear c0 c1 c2 c3 c4 c5 c6 c7 d0 d1 d2 d3 d4 d5 d6 d7 hA hB hn
      obtain ⟨d0, d1, d2, d3, d4, d5, d6, d7⟩ := eight hB1
      have HQ := Lib.hid hr
      cases r with
      | true =>
        have HP := Lib.hid (hr.1 rfl)
        clear hr HQ
        go_wp2_with fail
        refine (HS.out _ b1).mono ?_
        rintro e wz ⟨⟨r, rfl, hr⟩, kz⟩
        have bz := b1.trans (kz.mono b1.size)
        cases r with
        | true =>
          have HR := Lib.hid (hr.1 rfl)
          clear hr
          go_wp2_with fail
          go_ret
          exact .yes (HO.out.2 ⟨HL.out, HP.out, HR.out⟩) bz
        | false =>
          have HR := Lib.hid (fun h => (absurd (hr.2 h) (by decide) : False))
          clear hr
          go_wp2_with fail
          go_ret
          exact .no (fun h => HR.out ((HO.out.1 h).2.2)) bz
      | false =>
        clear hr
        go_wp2_with fail
        go_ret
        exact .no (fun h => absurd (HQ.out.2 (HO.out.1 h).2.1) (by decide)) b1
    · have hl' : (((ks.length : Nat) : Int) == ((vs.length : Nat) : Int)) = false := by simp; omega
      have HL := Lib.hid hl
      clear hl
      clear hsame hO hs1 hs2 hs3 hk hv hnk hnv
      go_enter Tryz.func77, Tryz.ntmps77
      go_wp2_with fail
      rw [HW.out]
      go_wp2_with fail
      go_ret
      exact .no (fun h => HL.out (HO.out.1 h).1) bW
  have HN := Lib.hid (show ¬ Own ⟨k, b, n, s, ks, vs⟩ from fun h => by
    unfold Own Val.kind at h
    have h1 := h.1
    have h2 := h.2.1
    dsimp only at h1 h2
    omega)
  have e1 : (k == 1) = false := by simpa using k1
  have e2 : (k == 2) = false := by simpa using k2
  have e3 : (k == 3) = false := by simpa using k3
  have e4 : (k == 4) = false := by simpa using k4
  have e5 : (k == 5) = false := by simpa using k5
  have e6 : (k == 6) = false := by simpa using k6
  have hA := hA (.cells #[.int .i64 0, .bool b, .bool n.neg, .string (txt n.dig), .int .i64 n.exp, .string (txt s), .slice pk ks.length ck, .slice a vs.length c] 29)
  have bW := bW (.cells #[.int .i64 0, .bool b, .bool n.neg, .string (txt n.dig), .int .i64 n.exp, .string (txt s), .slice pk ks.length ck, .slice a vs.length c] 29)
  obtain ⟨c0, c1, c2, c3, c4, c5, c6, c7⟩ := eight hA
  clear k1 k2 k3 k4 k5 k6 hs1 hs2 hs3 hk hv hnk hnv hB
  go_enter Tryz.func77, Tryz.ntmps77
  go_wp2_with fail
  go_ret
  exact .no HN.out bW
end Go.Proofs.YtlfbnfphocpgeaaGreatDoor.Tre
namespace Go.Proofs.YtlfbnfphocpgeaaGreatDoor.Tre
open Go.RowKit Kit Txt
open Num (Dec zero)
theorem holdV_form {w : World} {y : Value} {v : Val} (h : HoldV w y v) : ∃ pk ck a c, y = .agg #[.int .i64 v.kind, .bool v.is, .bool v.num.neg, .string (txt v.num.dig), .int .i64 v.num.exp, .string (txt v.str), .slice pk v.keys.length ck, .slice a v.kids.length c] := by
  obtain ⟨k, b, n, s, ks, vs⟩ := v
  obtain ⟨cs, rfl, hc⟩ := h
  rw [Hold] at hc
  obtain ⟨uk, a, c, rfl, ⟨pk, ck, rfl, -⟩, -⟩ := hc
  exact ⟨pk, ck, a, c, rfl⟩
theorem deep_pos (v : Val) : 1 ≤ deep v := by
  rw [deep_eq]
  omega
/-- Right within so many levels, kid by kid. -/
theorem within_iff {v : Val} {m : Nat} (h : Own v) (hm : 0 < m) : (deep v ≤ m ∧ Whole v) ↔ ∀ x ∈ v.kids, deep x ≤ m - 1 ∧ Whole x := by
  rw [whole_iff, deep_eq]
  by_cases h5 : v.kind = 5 ∨ v.kind = 6
  · rw [if_pos h5]
    constructor
    · rintro ⟨h1, -, h2⟩ x hx
      have := deeps_le.1 (Nat.le_refl _) x hx
      exact ⟨by omega, h2 x hx⟩
    · intro h2
      have : deeps v.kids ≤ m - 1 := deeps_le.2 fun x hx => (h2 x hx).1
      exact ⟨by omega, h, fun x hx => (h2 x hx).2⟩
  · rw [if_neg h5]
    have hk : v.kids = [] := by
      unfold Own at h
      exact h.2.2.2.2.2.1 (by have := h.1; have := h.2.1; omega)
    rw [hk]
    constructor
    · intro _ x hx
      cases hx
    · intro _
      exact ⟨by omega, h, fun x hx => by cases hx⟩
set_option maxRecDepth 100000 in
set_option maxHeartbeats 8000000 in
theorem rgwithin_any : ∀ (v : Val), Mild v → ∀ (w : World) (u : Value) (m : Nat), m ≤ 64 → Utf.Laid w → HoldV w u v → Calls Tryz.prog 52 #[u, .int .i64 m] w (Tells (deep v ≤ m ∧ Whole v) w) := by
  refine ind1 fun v ih hmd w u m hm64 ho h => ?_
  have hsz := hmd.sizes
  have hkid := hmd.kids
  have hF := fun (wx : World) (hb : Below w.heap.size w wx) => rgfields_any (w := wx) (ho.below hb ho.lt) (by omega) (by omega) (fun x hx => by have := hsz.2.2 x hx; omega) (h.below hb)
  have ih' : ∀ x ∈ v.kids, ∀ (w : World) (u : Value) (m : Nat), m ≤ 64 → Utf.Laid w → HoldV w u x → Calls Tryz.prog 52 #[u, .int .i64 m] w (Tells (deep x ≤ m ∧ Whole x) w) := fun x hx => ih x hx (hkid x hx)
  have hI := fun (ho : Own v) (h0 : 0 < m) => within_iff ho h0
  have hWO := fun (h : Whole v) => (whole_iff.1 h).1
  have hdp := deep_pos v
  clear ih hkid hsz
  generalize hp : (deep v ≤ m ∧ Whole v) = p at *
  have hp0 : m = 0 → ¬ p := fun h0 h => by rw [← hp] at h; omega
  have hpo : p → Own v := fun h => by rw [← hp] at h; exact hWO h.2
  clear hp hWO hdp
  generalize Own v = q at *
  obtain ⟨k, b, n, s, ks, vs⟩ := v
  have ih' : ∀ x ∈ vs, ∀ (w : World) (u : Value) (m : Nat), m ≤ 64 → Utf.Laid w → HoldV w u x → Calls Tryz.prog 52 #[u, .int .i64 m] w (Tells (deep x ≤ m ∧ Whole x) w) := ih'
  have hI : q → 0 < m → (p ↔ ∀ x ∈ vs, deep x ≤ m - 1 ∧ Whole x) := hI
  obtain ⟨cs, rfl, hc⟩ := h
  rw [Hold] at hc
  obtain ⟨uk, a, c, rfl, ⟨pk, ck, rfl, -⟩, hcap, hmax, hv⟩ := hc
  have hF : ∀ wx, Below w.heap.size w wx → Calls Tryz.prog 77 #[.agg #[.int .i64 k, .bool b, .bool n.neg, .string (txt n.dig), .int .i64 n.exp, .string (txt s), .slice pk ks.length ck, .slice a vs.length c]] wx (Tells q wx) := hF
  show Calls Tryz.prog 52 #[.agg #[.int .i64 k, .bool b, .bool n.neg, .string (txt n.dig), .int .i64 n.exp, .string (txt s), .slice pk ks.length ck, .slice a vs.length c], .int .i64 m] w _
  have hA := World.alloc_heap_new w (.cells #[.int .i64 k, .bool b, .bool n.neg, .string (txt n.dig), .int .i64 n.exp, .string (txt s), .slice pk ks.length ck, .slice a vs.length c] 29)
  have bA : Below w.heap.size w (w.alloc (.cells #[.int .i64 k, .bool b, .bool n.neg, .string (txt n.dig), .int .i64 n.exp, .string (txt s), .slice pk ks.length ck, .slice a vs.length c] 29)) := (Below.refl _ w).alloc (Nat.le_refl _) _
  have HIH := Lib.hid ih'
  have HI := Lib.hid hI
  have HP := Lib.hid hpo
  have HP0 := Lib.hid hp0
  have HF := Lib.hid (hF _ bA)
  clear ih' hI hpo hp0 hF
  obtain ⟨c0, c1, c2, c3, c4, c5, c6, c7⟩ := eight hA
  by_cases h0 : m = 0
  · have HN := Lib.hid (HP0.out h0)
    subst h0
    clear hm64 HP0
    go_enter Tryz.func52, Tryz.ntmps52
    go_wp2_with fail
    go_ret
    exact .no HN.out bA
  · have h0' : (((m : Nat) : Int) == 0) = false := by simp; omega
    have HM := Lib.hid (show 0 < m from by omega)
    clear h0
    go_enter Tryz.func52, Tryz.ntmps52
    go_wp2_with fail
    refine HF.out.mono ?_
    rintro e w1 ⟨⟨r, rfl, hr⟩, k1⟩
    have b1 := bA.trans (k1.mono bA.size)
    have hA1 := (k1.block _ (lt_of_heap hA)).trans hA
    clear c0 c1 c2 c3 c4 c5 c6 c7 hA bA k1
    obtain ⟨c0, c1, c2, c3, c4, c5, c6, c7⟩ := eight hA1
    cases r with
    | false =>
      have HR := Lib.hid (show ¬ p from fun h => absurd (hr.2 (HP.out h)) (by decide))
      clear hr
      go_wp2_with fail
      go_ret
      exact .no HR.out b1
    | true =>
      have HR := Lib.hid (HI.out (hr.1 rfl) HM.out)
      clear hr
      go_wp2_with fail
      clear c0 c1 c2 c3 c4 c5 c6 c7 hA1
      go_loopw [17] (fun y wr => ∃ j : Nat, j ≤ vs.length ∧ y = .int .i64 j ∧ (∀ x ∈ vs.take j, deep x ≤ m - 1 ∧ Whole x) ∧ Below w.heap.size w wr) (fun y _ => vs.length - (intOf y).toNat)
      case atStart => exact ⟨0, Nat.zero_le _, rfl, by simp, b1⟩
      case round =>
        obtain ⟨j, hj, rfl, hall, bB⟩ := hrel
        clear b1
        by_cases hlt : j < vs.length
        · have hlt' : (j : Int) < (vs.length : Int) := by omega
          rcases hv with rfl | ⟨g, off, rfl, hg, hx⟩
          · exact absurd hlt (Nat.not_lt_zero _)
          obtain ⟨cs8, h8, hh⟩ := Holds.at hx (List.getElem?_eq_getElem hlt)
          have hcall := HIH.out vs[j] (List.getElem_mem hlt)
          have hst : vs.take (j + 1) = vs.take j ++ [vs[j]] := List.take_succ_eq_append_getElem hlt
          have hmem := List.getElem_mem hlt
          generalize vs[j] = x at *
          have h8' := h8.below hg bB
          have hh' := Hold.below bB x hh
          have HALL := Lib.hid hall
          have HST := Lib.hid hst
          have HMEM := Lib.hid hmem
          have HX := Lib.hid hx
          clear hh h8 hall hst hmem hx
          obtain ⟨k', b', n', s', ks', vs'⟩ := x
          have hh2 := hh'
          rw [Hold] at hh2
          obtain ⟨uk', a', c', rfl, ⟨pk', ck', rfl, -⟩, -, -, -⟩ := hh2
          obtain ⟨d0, d1, d2, d3, d4, d5, d6, d7⟩ := h8'.cells
          have hA2 := World.alloc_heap_new wr (.cells #[.int .i64 k', .bool b', .bool n'.neg, .string (txt n'.dig), .int .i64 n'.exp, .string (txt s'), .slice pk' ks'.length ck', .slice a' vs'.length c'] 29)
          obtain ⟨wB, hwB⟩ : ∃ wB, wr.alloc (.cells #[.int .i64 k', .bool b', .bool n'.neg, .string (txt n'.dig), .int .i64 n'.exp, .string (txt s'), .slice pk' ks'.length ck', .slice a' vs'.length c'] 29) = wB := ⟨_, rfl⟩
          have bC : Below wr.heap.size wr wB := by
            rw [← hwB]
            exact (Below.refl _ wr).alloc (Nat.le_refl _) _
          rw [hwB] at hA2
          have HW := Lib.hid hwB
          clear hwB
          obtain ⟨e0, e1, e2, e3, e4, e5, e6, e7⟩ := eight hA2
          have hbb := bB.trans (bC.mono bB.size)
          have hcall' := hcall wB (.agg #[.int .i64 k', .bool b', .bool n'.neg, .string (txt n'.dig), .int .i64 n'.exp, .string (txt s'), .slice pk' ks'.length ck', .slice a' vs'.length c']) (m - 1) (by omega) (ho.below hbb ho.lt) ⟨_, rfl, Hold.below bC _ hh'⟩
          generalize hpx : (deep ⟨k', b', n', s', ks', vs'⟩ ≤ m - 1 ∧ Whole ⟨k', b', n', s', ks', vs'⟩) = px at hcall'
          have HPX := Lib.hid hpx
          clear hh' h8' hcall hpx
          have hgl := Nat.lt_of_lt_of_le hg bB.size
          have wk : IntKind.i64.wrap ((j : Int) + 1) = (j : Int) + 1 := by simp only [IntKind.wrap, IntKind.signed, IntKind.bits]; simp; omega
          have wm : IntKind.i64.wrap ((m : Int) - 1) = ((m - 1 : Nat) : Int) := by
            have := HM.out
            rw [wrap_id (by omega) (by omega)]
            omega
          have HC := Lib.hid hcall'
          clear hcall'
          go_wp2_with fail
          rw [HW.out]
          go_wp2_with fail
          refine HC.out.mono ?_
          rintro e w2 ⟨⟨r, rfl, hr⟩, k2⟩
          have b2 := hbb.trans (k2.mono hbb.size)
          cases r with
          | true =>
            have HQ := Lib.hid (hr.1 rfl)
            clear hr
            go_wp2_with fail
            go_roundw
            case rel =>
              refine ⟨j + 1, by omega, by go_num, fun y hy => ?_, b2⟩
              rw [HST.out] at hy
              rcases List.mem_append.1 hy with h | h
              · exact HALL.out y h
              · rw [List.mem_singleton.1 h]
                have := HQ.out
                rwa [← HPX.out] at this
            case measure => simp [intOf]; omega
          | false =>
            have HQ := Lib.hid (show ¬ p from fun h => by
              have h1 := HR.out.1 h _ HMEM.out
              rw [HPX.out] at h1
              exact absurd (hr.2 h1) (by decide))
            clear hr
            go_wp2_with fail
            go_ret
            exact .no HQ.out b2
        · obtain rfl : j = vs.length := by omega
          rw [List.take_length] at hall
          have HALL := Lib.hid hall
          clear hall
          go_wp2_with fail
          go_ret
          exact .yes (HR.out.2 HALL.out) bB
set_option maxRecDepth 100000 in
set_option maxHeartbeats 4000000 in
theorem tright_of {v : Val} {w : World} {u : Value} (hm : Mild v) (ho : Utf.Laid w) (h : HoldV w u v) : Calls Tryz.prog 31 #[u] w (Tells (Right v) w) := by
  have hW := fun (wx : World) (hb : Below w.heap.size w wx) => rgwithin_any v hm wx u 64 (Nat.le_refl _) (ho.below hb ho.lt) (h.below hb)
  unfold Right
  generalize (deep v ≤ 64 ∧ Whole v) = p at *
  obtain ⟨pk, ck, a, c, rfl⟩ := holdV_form h
  have bA : Below w.heap.size w (w.alloc (.cells #[.int .i64 v.kind, .bool v.is, .bool v.num.neg, .string (txt v.num.dig), .int .i64 v.num.exp, .string (txt v.str), .slice pk v.keys.length ck, .slice a v.kids.length c] 29)) := (Below.refl _ w).alloc (Nat.le_refl _) _
  have hA := World.alloc_heap_new w (.cells #[.int .i64 v.kind, .bool v.is, .bool v.num.neg, .string (txt v.num.dig), .int .i64 v.num.exp, .string (txt v.str), .slice pk v.keys.length ck, .slice a v.kids.length c] 29)
  obtain ⟨c0, c1, c2, c3, c4, c5, c6, c7⟩ := eight hA
  have hW1 := hW _ bA
  clear hW
  go_enter Tryz.func31, Tryz.ntmps31
  go_wp2_with fail
  refine hW1.mono ?_
  rintro e w1 ⟨⟨r, rfl, hr⟩, k1⟩
  have HR := Lib.hid hr
  clear hr
  go_wp2_with fail
  go_ret
  exact ⟨⟨_, rfl, HR.out⟩, bA.trans (k1.mono bA.size)⟩
end Go.Proofs.YtlfbnfphocpgeaaGreatDoor.Tre
namespace Go.Proofs.YtlfbnfphocpgeaaGreatDoor.Tre
open Go.RowKit Kit Txt
theorem setc_other {W : World} {g k i : Nat} (v : Value) (hk : k ≠ g) : (W.setCell ⟨g, i, none⟩ v).heap[k]? = W.heap[k]? := by
  show (W.heap.modify g _)[k]? = _
  rw [Array.getElem?_modify]
  simp [Ne.symm hk]
/-- A whole value is stored at a place. -/
def put8 (W : World) (g o : Nat) (a b c d e f x y : Value) : World :=
  (((((((W.setCell ⟨g, o, none⟩ a).setCell ⟨g, o + 1, none⟩ b).setCell ⟨g, o + 2, none⟩ c).setCell ⟨g, o + 3, none⟩ d).setCell ⟨g, o + 4, none⟩ e).setCell ⟨g, o + 5, none⟩ f).setCell ⟨g, o + 6, none⟩ x).setCell ⟨g, o + 7, none⟩ y
theorem put8_block {W : World} {g k o : Nat} (hk : k ≠ g) (a b c d e f x y : Value) : (put8 W g o a b c d e f x y).heap[k]? = W.heap[k]? := by
  unfold put8
  simp only [setc_other _ hk]
theorem put8_size (W : World) (g o : Nat) (a b c d e f x y : Value) : (put8 W g o a b c d e f x y).heap.size = W.heap.size := by
  simp [put8, World.setCell, Array.size_modify]
theorem put8_own {W : World} {g o : Nat} {arr : Array Value} {t : TypeId} {fr : Nat × Nat} (h : W.heap[g]? = some (.cells arr t fr)) (a b c d e f x y : Value) : ∃ arr' : Array Value, arr'.size = arr.size ∧ (put8 W g o a b c d e f x y).heap[g]? = some (.cells arr' t fr) := by
  have := (set_of (set_of (set_of (set_of (set_of (set_of (set_of (set_of h o a) (o + 1) b) (o + 2) c) (o + 3) d) (o + 4) e) (o + 5) f) (o + 6) x) (o + 7) y)
  exact ⟨_, by simp, this⟩
theorem put8_cell {W : World} {g o i : Nat} (hi : i < o ∨ o + 8 ≤ i) (a b c d e f x y : Value) : (put8 W g o a b c d e f x y).cell? ⟨g, i, none⟩ = W.cell? ⟨g, i, none⟩ := by
  unfold put8
  have ne : ∀ k, k < 8 → (⟨g, o + k, none⟩ : Addr) ≠ ⟨g, i, none⟩ := fun k hk e => by
    injection e with _ e _
    omega
  rw [World.cell?_setCell_other _ _ _ _ (ne 7 (by omega)), World.cell?_setCell_other _ _ _ _ (ne 6 (by omega)), World.cell?_setCell_other _ _ _ _ (ne 5 (by omega)), World.cell?_setCell_other _ _ _ _ (ne 4 (by omega)), World.cell?_setCell_other _ _ _ _ (ne 3 (by omega)), World.cell?_setCell_other _ _ _ _ (ne 2 (by omega)), World.cell?_setCell_other _ _ _ _ (ne 1 (by omega)), World.cell?_setCell_other _ _ _ _ (show (⟨g, o, none⟩ : Addr) ≠ ⟨g, i, none⟩ from fun e => by injection e with _ e _; omega)]
theorem put8_at {W : World} {g o : Nat} {arr : Array Value} {t : TypeId} {fr : Nat × Nat} (h : W.heap[g]? = some (.cells arr t fr)) (ho : o + 8 ≤ arr.size) (a b c d e f x y : Value) : At8 (put8 W g o a b c d e f x y) g o [a, b, c, d, e, f, x, y] := by
  have h2 := (set_of (set_of (set_of (set_of (set_of (set_of (set_of (set_of h o a) (o + 1) b) (o + 2) c) (o + 3) d) (o + 4) e) (o + 5) f) (o + 6) x) (o + 7) y)
  refine ⟨rfl, fun j hj => ?_⟩
  have h3 := cell_of h2 (o + j)
  refine h3.trans ?_
  rcases j with _ | _ | _ | _ | _ | _ | _ | _ | j
  all_goals first | omega | skip
  all_goals
    simp only [Array.getElem?_setIfInBounds]
    simp
    omega
theorem put8_below {N : Nat} {w W : World} {g : Nat} (h : Below N w W) (hg : N ≤ g) (o : Nat) (a b c d e f x y : Value) : Below N w (put8 W g o a b c d e f x y) :=
  (((((((h.setCell (p := ⟨g, o, none⟩) hg a).setCell (p := ⟨g, o + 1, none⟩) hg b).setCell (p := ⟨g, o + 2, none⟩) hg c).setCell (p := ⟨g, o + 3, none⟩) hg d).setCell (p := ⟨g, o + 4, none⟩) hg e).setCell (p := ⟨g, o + 5, none⟩) hg f).setCell (p := ⟨g, o + 6, none⟩) hg x).setCell (p := ⟨g, o + 7, none⟩) hg y
/-- The eight cells of a block from a place on. -/
theorem block8 {W : World} {g o : Nat} {arr : Array Value} {t : TypeId} {fr : Nat × Nat} (h : W.heap[g]? = some (.cells arr t fr)) (ho : o + 8 ≤ arr.size) : ∃ z0 z1 z2 z3 z4 z5 z6 z7 : Value, W.cell? ⟨g, o, none⟩ = some z0 ∧ W.cell? ⟨g, o + 1, none⟩ = some z1 ∧ W.cell? ⟨g, o + 2, none⟩ = some z2 ∧ W.cell? ⟨g, o + 3, none⟩ = some z3 ∧ W.cell? ⟨g, o + 4, none⟩ = some z4 ∧ W.cell? ⟨g, o + 5, none⟩ = some z5 ∧ W.cell? ⟨g, o + 6, none⟩ = some z6 ∧ W.cell? ⟨g, o + 7, none⟩ = some z7 := by
  refine ⟨arr[o], arr[o + 1], arr[o + 2], arr[o + 3], arr[o + 4], arr[o + 5], arr[o + 6], arr[o + 7], ?_⟩
  refine ⟨?_, ?_, ?_, ?_, ?_, ?_, ?_, ?_⟩
  all_goals rw [cell_of h]; exact Array.getElem?_eq_getElem _
end Go.Proofs.YtlfbnfphocpgeaaGreatDoor.Tre
namespace Go.Proofs.YtlfbnfphocpgeaaGreatDoor.Tre
open Go.RowKit Kit Txt
open Num (Dec zero)
/-- The row's block, where it has one. -/
theorem RowC.block {N : Option Nat} {B g cap m : Nat} {w : World} {vs : List Val} {cs : List (List Value)} (h : RowC N B w (.slice (some ⟨g, 0, none⟩) m cap) vs cs) : B ≤ g ∧ m = vs.length ∧ m ≤ cap ∧ ∃ cur : Array Value, w.heap[g]? = some (.cells cur 29 (0, 0)) ∧ cur.size = cap * 8 ∧ cur.toList.take (m * 8) = cs.flatten := by
  obtain ⟨hl, ⟨h1, h2⟩, hh⟩ := h
  rcases h2 with ⟨h2, -⟩ | ⟨g', cap', cur, h2, hg, hb, hc, hm, hz, ht⟩
  · cases h2
  · injection h2 with e1 e2 e3
    injection e1 with e1
    injection e1 with e1 _ _
    subst e1; subst e3
    exact ⟨hg, e2, by omega, cur, hb, hz, by rw [e2]; exact ht⟩
end Go.Proofs.YtlfbnfphocpgeaaGreatDoor.Tre
namespace Go.Proofs.YtlfbnfphocpgeaaGreatDoor.Jenc
open Go.RowKit Kit Txt
open Tre (Val Whole Wholes HoldU HoldP HoldsP KsP At8 cellsV Fine count counts)
open Emb (Turn)
/-- What the world must hold, all of it below B. -/
structure Env (B : Nat) (w : World) : Prop where
  utf : Utf.Laid w
  lt : 5 < B
  pow : Num.Pow w
  old : ∃ w0 : World, Num.Pow w0 ∧ w0.heap.size ≤ B
theorem Env.of {w : World} (h : Utf.Laid w) (hp : Num.Pow w) : Env w.heap.size w := ⟨h, h.lt, hp, w, hp, Nat.le_refl _⟩
theorem Env.step {B : Nat} {w w' : World} (h : Env B w) (k : Below B w w') : Env B w' := by
  obtain ⟨w0, p0, hz⟩ := h.old
  exact ⟨h.utf.below k h.lt, h.lt, p0.fence h.pow k hz, w0, p0, hz⟩
/-- A printer behind an interface value of type T: its method is function K, it lies in block P, all its own from B on; 'St': the pieces that it has been handed. -/
structure Printer (T : TypeId) (K : FuncId) (P B : Nat) (Gd : List (List UInt8) → Prop) (St : List (List UInt8) → World → Prop) : Prop where
  ahead : ∀ w, (nilAhead 344 T (.pointer (some ⟨P, 0, none⟩)) "tabularium/jenc.write").run Tryz.prog w = .ok (some false) w
  meth : ∀ w, (method 344 T (.pointer (some ⟨P, 0, none⟩)) "tabularium/jenc.write").run Tryz.prog w = .ok (K, .pointer (some ⟨P, 0, none⟩)) w
  call : ∀ (m : List UInt8) (w : World), (callFunc K #[.pointer (some ⟨P, 0, none⟩), .string (txt m)]).run Tryz.prog w = .ok (.enter K #[.pointer (some ⟨P, 0, none⟩), .string (txt m)]) w
  step : ∀ (ps : List (List UInt8)) (m : List UInt8) (w : World), St ps w → m.length ≤ 100000 → ps.length ≤ 100000 → Gd (ps ++ [m]) → Calls Tryz.prog K #[.pointer (some ⟨P, 0, none⟩), .string (txt m)] w fun e w' => e = .returned (.tuple #[]) ∧ St (ps ++ [m]) w' ∧ Turn B P w w'
  pre : ∀ a b : List (List UInt8), Gd (a ++ b) → Gd a
  keep : ∀ (ps : List (List UInt8)) (w w' : World), St ps w → Below w.heap.size w w' → St ps w'
  low : ∀ (ps : List (List UInt8)) (w : World), St ps w → B ≤ P ∧ B ≤ w.heap.size ∧ P < w.heap.size
set_option maxRecDepth 100000 in
theorem quoted_any {w : World} (ho : Utf.Laid w) {l : List UInt8} (hl : l.length < 100000) (hb : Utf.bad l = none) :
    Calls Tryz.prog 75 #[.string (txt l)] w fun e w' => e = .returned (.string (txt (Quo.print l))) ∧ Below w.heap.size w w' := by
  have hp := Quo.qprint_any ho hl
  rw [if_pos hb, if_pos hb] at hp
  have ht0 : (⟨#[]⟩ : ByteArray) = txt [] := rfl
  go_enter Tryz.func75, Tryz.ntmps75
  go_wp2_with fail
  refine hp.mono ?_
  rintro e w1 ⟨rfl, k1⟩
  go_wp2_with fail
  go_ret
  exact ⟨rfl, k1⟩
theorem HoldU.step {B : Nat} {w w' : World} {u : Value} {v : Val} (h : HoldU B w u v) (k : Below B w w') : HoldU B w' u v := by
  obtain ⟨cs, hu, hc⟩ := h
  exact ⟨cs, hu, HoldP.keep k.size (fun g hg _ => k.block g hg) v hc⟩
set_option maxRecDepth 100000 in
set_option maxHeartbeats 2000000 in
theorem putvalue_leaf {T : TypeId} {K : FuncId} {P B : Nat} {Gd : List (List UInt8) → Prop} {St : List (List UInt8) → World → Prop} (hp : Printer T K P B Gd St) {v : Val} (hv : Whole v) (hf : ∃ d, Fine d v) (h4 : v.kind < 5) {w : World} {u : Value} {ps : List (List UInt8)} (hu : HoldU B w u v) (hs : St ps w) (he : Env B w) (hn : ps.length ≤ 100000) (hg : Gd (ps ++ pcs v)) :
    Calls Tryz.prog 51 #[.iface T (.pointer (some ⟨P, 0, none⟩)), u] w fun e w' => e = .returned (.tuple #[]) ∧ St (ps ++ pcs v) w' ∧ Turn B P w w' := by
  obtain ⟨k, i, n, s, ks, vs⟩ := v
  obtain ⟨d, hf⟩ := hf
  rw [Fine] at hf
  obtain ⟨-, hsl, hdl, -, -⟩ := hf
  rw [Whole] at hv
  obtain ⟨⟨l1, l2, a2, a3, a4, a5, a6, hr, hbad, hlen, hkb, hnd⟩, hw⟩ := hv
  have l1 : 1 ≤ k := l1
  have h4 : k < 5 := h4
  have hr : Num.Right n := hr
  have hbad : Utf.bad s = none := hbad
  obtain ⟨cs, rfl, hc⟩ := hu
  rw [HoldP] at hc
  obtain ⟨uk, a, c, rfl, hk, -, -, -⟩ := hc
  obtain ⟨pk, ck, rfl, -, -, -⟩ := hk
  show Calls Tryz.prog 51 #[.iface T (.pointer (some ⟨P, 0, none⟩)), .agg #[.int .i64 k, .bool i, .bool n.neg, .string (txt n.dig), .int .i64 n.exp, .string (txt s), .slice pk ks.length ck, .slice a vs.length c]] w _
  have hna := hp.ahead
  have hme := hp.meth
  have hcl := hp.call
  obtain ⟨lB, lw, lP⟩ := hp.low _ _ hs
  have hA := World.alloc_heap_new w (.cells #[.int .i64 k, .bool i, .bool n.neg, .string (txt n.dig), .int .i64 n.exp, .string (txt s), .slice pk ks.length ck, .slice a vs.length c] 29)
  have bA : Below w.heap.size w (w.alloc (.cells #[.int .i64 k, .bool i, .bool n.neg, .string (txt n.dig), .int .i64 n.exp, .string (txt s), .slice pk ks.length ck, .slice a vs.length c] 29)) := (Below.refl _ w).alloc (Nat.le_refl _) _
  have hsA := hp.keep _ _ _ hs bA
  have tA : Turn B P w _ := .of_below bA lw
  have heA := he.step tA.1
  obtain ⟨c0, c1, c2, c3, c4, c5, c6, c7⟩ := Tre.eight hA
  have t1 : (⟨#[110, 117, 108, 108]⟩ : ByteArray) = txt [110, 117, 108, 108] := rfl
  by_cases h1 : k = 1
  · subst h1
    have hpc : pcs ⟨1, i, n, s, ks, vs⟩ = [[110, 117, 108, 108]] := by rw [pcs, if_pos rfl]
    have HP := Lib.hid hpc
    have HS := Lib.hid (hp.step ps [110, 117, 108, 108] _ hsA (by decide) hn (by rw [hpc] at hg; exact hg))
    have HT := Lib.hid tA
    clear hpc hs hsA tA heA he hr hbad a2 a3 a4 a5 a6 hlen hkb hnd hw bA hA
    go_enter Tryz.func51, Tryz.ntmps51
    go_wp2_with fail
    refine HS.out.mono ?_
    rintro e w2 ⟨rfl, h2, t2⟩
    go_wp2_with fail
    go_end0
    exact ⟨rfl, by rw [HP.out]; exact h2, HT.out.trans t2⟩
  by_cases h2 : k = 2
  · subst h2
    obtain ⟨m, hm⟩ : ∃ m : List UInt8, (if i then [116, 114, 117, 101] else [102, 97, 108, 115, 101]) = m := ⟨_, rfl⟩
    have hpc : pcs ⟨2, i, n, s, ks, vs⟩ = [m] := by rw [pcs, if_neg (by decide), if_pos rfl, hm]
    have hfb : ∀ wx : World, Calls Tryz.prog 73 #[.bool i] wx fun e w' => e = .returned (.string (txt m)) ∧ w' = wx := fun wx => by
      have := Tryz.strconv_FormatBool i wx
      rw [show (⟨(Lib.formatBool i).toArray⟩ : ByteArray) = txt m by rw [← hm]; cases i <;> decide +kernel] at this
      exact this
    have hml : m.length ≤ 100000 := by rw [← hm]; cases i <;> decide
    have HP := Lib.hid hpc
    have HS := Lib.hid fun (wx : World) (h : St ps wx) => hp.step ps m wx h hml hn (by rw [hpc] at hg; exact hg)
    have HT := Lib.hid tA
    have HSA := Lib.hid hsA
    have HKP := Lib.hid hp.keep
    have HLW := Lib.hid (show B ≤ (w.alloc (.cells #[.int .i64 2, .bool i, .bool n.neg, .string (txt n.dig), .int .i64 n.exp, .string (txt s), .slice pk ks.length ck, .slice a vs.length c] 29)).heap.size by simp; omega)
    clear hpc hs hsA tA he heA hr hbad a2 a3 a4 a5 a6 hlen hkb hnd hw hm hml hg bA hA
    go_enter Tryz.func51, Tryz.ntmps51
    go_upto_region 5 with fail
    go_region_with (first | (go_at_call 73; refine (hfb _).mono ?_; rintro e wx ⟨rfl, rfl⟩) | (refine (HS.out _ (HKP.out _ _ _ HSA.out (Below.refl _ _).drew)).mono ?_; rintro e wz ⟨rfl, h2, t2⟩))
    all_goals
      go_wp2_with fail
      go_end0
      exact ⟨rfl, by rw [HP.out]; exact h2, (HT.out.trans (.of_below (Below.refl _ _).drew HLW.out)).trans t2⟩
  by_cases h3 : k = 3
  · subst h3
    have hpc : pcs ⟨3, i, n, s, ks, vs⟩ = [Num.print n] := by rw [pcs, if_neg (by decide), if_neg (by decide), if_pos rfl]
    have hml : (Num.print n).length ≤ 100000 := by have := num_len (n := n) hr; omega
    have hpr : ∀ wx : World, Num.Pow wx → Calls Tryz.prog 74 #[.agg #[.bool n.neg, .string (txt n.dig), .int .i64 n.exp]] wx fun e w' => e = .returned (.string (txt (Num.print n))) ∧ Below wx.heap.size wx w' := fun wx h => Num.nprint_pow (w := wx) h (n := n) (by omega)
    have hpw := heA.pow.below (w' := (w.alloc (.cells #[.int .i64 3, .bool i, .bool n.neg, .string (txt n.dig), .int .i64 n.exp, .string (txt s), .slice pk ks.length ck, .slice a vs.length c] 29)).drew) (Below.refl _ _).drew
    have HP := Lib.hid hpc
    have HS := Lib.hid fun (wx : World) (h : St ps wx) => hp.step ps (Num.print n) wx h hml hn (by rw [hpc] at hg; exact hg)
    have HT := Lib.hid tA
    have HSA := Lib.hid hsA
    have HKP := Lib.hid hp.keep
    have HPR := Lib.hid hpr
    have HPW := Lib.hid hpw
    have HLW := Lib.hid (show B ≤ (w.alloc (.cells #[.int .i64 3, .bool i, .bool n.neg, .string (txt n.dig), .int .i64 n.exp, .string (txt s), .slice pk ks.length ck, .slice a vs.length c] 29)).heap.size by simp; omega)
    clear hpc hs hsA tA he heA hr hbad a2 a3 a4 a5 a6 hlen hkb hnd hw hml hg bA hA hpr hpw
    go_enter Tryz.func51, Tryz.ntmps51
    go_upto_region 7 with fail
    go_region_with (first | (go_at_call 74; refine (HPR.out _ HPW.out).mono ?_; rintro e wx ⟨rfl, kx⟩) | (refine (HS.out _ (HKP.out _ _ _ HSA.out ((Below.refl _ _).drew.trans kx))).mono ?_; rintro e wz ⟨rfl, h2, t2⟩))
    all_goals
      go_wp2_with fail
      go_end0
      exact ⟨rfl, by rw [HP.out]; exact h2, (HT.out.trans (.of_below ((Below.refl _ _).drew.trans kx) HLW.out)).trans t2⟩
  · obtain rfl : k = 4 := by omega
    have hpc : pcs ⟨4, i, n, s, ks, vs⟩ = [Quo.print s] := by rw [pcs, if_neg (by decide), if_neg (by decide), if_neg (by decide), if_pos rfl]
    have hml : (Quo.print s).length ≤ 100000 := by have := quo_len s; omega
    have hpr := fun (wx : World) (h : Utf.Laid wx) => quoted_any (w := wx) h (l := s) (by omega) hbad
    have hpw : Utf.Laid ((w.alloc (.cells #[.int .i64 4, .bool i, .bool n.neg, .string (txt n.dig), .int .i64 n.exp, .string (txt s), .slice pk ks.length ck, .slice a vs.length c] 29)).drew) := heA.utf.below ((Below.refl _ _).drew) heA.utf.lt
    have HP := Lib.hid hpc
    have HS := Lib.hid fun (wx : World) (h : St ps wx) => hp.step ps (Quo.print s) wx h hml hn (by rw [hpc] at hg; exact hg)
    have HT := Lib.hid tA
    have HSA := Lib.hid hsA
    have HKP := Lib.hid hp.keep
    have HPR := Lib.hid hpr
    have HPW := Lib.hid hpw
    have HLW := Lib.hid (show B ≤ (w.alloc (.cells #[.int .i64 4, .bool i, .bool n.neg, .string (txt n.dig), .int .i64 n.exp, .string (txt s), .slice pk ks.length ck, .slice a vs.length c] 29)).heap.size by simp; omega)
    clear hpc hs hsA tA he heA hr hbad a2 a3 a4 a5 a6 hlen hkb hnd hw hml hg bA hA hpr hpw
    go_enter Tryz.func51, Tryz.ntmps51
    go_upto_region 9 with fail
    go_region_with (first | (go_at_call 75; refine (HPR.out _ HPW.out).mono ?_; rintro e wx ⟨rfl, kx⟩) | (refine (HS.out _ (HKP.out _ _ _ HSA.out ((Below.refl _ _).drew.trans kx))).mono ?_; rintro e wz ⟨rfl, h2, t2⟩))
    all_goals
      go_wp2_with fail
      go_end0
      exact ⟨rfl, by rw [HP.out]; exact h2, (HT.out.trans (.of_below ((Below.refl _ _).drew.trans kx) HLW.out)).trans t2⟩
end Go.Proofs.YtlfbnfphocpgeaaGreatDoor.Jenc
namespace Go.Proofs.YtlfbnfphocpgeaaGreatDoor.Jenc
open Tre (Val Whole Wholes)
/-- Brackets that are open behind pieces. -/
def bal : List (List UInt8) → Int
  | [] => 0
  | p :: r => (if opens p then 1 else 0) - (if shuts p then 1 else 0) + bal r
theorem bal_app : ∀ a b : List (List UInt8), bal (a ++ b) = bal a + bal b
  | [], b => by simp [bal]
  | p :: r, b => by rw [List.cons_append, bal, bal, bal_app r b]; omega
theorem bal_le : ∀ a : List (List UInt8), bal a ≤ a.length
  | [] => by simp [bal]
  | p :: r => by
    have := bal_le r
    rw [bal, List.length_cons]
    split <;> split <;> omega
theorem within_step (s : WS) (p : List UInt8) : within (wstep s p) = within s + ((if opens p then 1 else 0) - (if shuts p then 1 else 0)) := by
  show (if opens p = true then wdeep s p + 1 else wdeep s p) = _
  unfold wdeep within
  split <;> split <;> split <;> omega
theorem within_fold : ∀ (ps : List (List UInt8)) (s : WS), within (wfold s ps) = within s + bal ps
  | [], s => by simp [wfold, bal]
  | p :: r, s => by rw [wfold_cons, within_fold r, within_step, bal]; omega
/-- Never less than nothing is open. -/
def Gdw (ps : List (List UInt8)) : Prop := ∀ a b, ps = a ++ b → 0 ≤ bal a
theorem Gdw.pre (a b : List (List UInt8)) (h : Gdw (a ++ b)) : Gdw a := fun x y e => h x (y ++ b) (by rw [e, List.append_assoc])
def Bal (ps : List (List UInt8)) : Prop := bal ps = 0 ∧ Gdw ps
theorem Bal.nil : Bal [] := ⟨rfl, fun a b e => by
  have : a = [] := (List.append_eq_nil_iff.1 e.symm).1
  rw [this]
  exact Int.le_refl _⟩
theorem Bal.app {a b : List (List UInt8)} (h : Bal a) (k : Bal b) : Bal (a ++ b) := ⟨by rw [bal_app, h.1, k.1]; rfl, fun x y e => by
  rcases List.append_eq_append_iff.1 e with ⟨z, e1, e2⟩ | ⟨z, e1, e2⟩
  · rw [e1, bal_app, h.1]
    have := k.2 z y e2
    omega
  · exact h.2 x z e1⟩
theorem Bal.one {p : List UInt8} (h1 : opens p = false) (h2 : shuts p = false) : Bal [p] := by
  refine ⟨by simp [bal, h1, h2], fun a b e => ?_⟩
  cases a with
  | nil => exact Int.le_refl _
  | cons x r =>
    injection e with e1 e2
    have : r = [] := (List.append_eq_nil_iff.1 e2.symm).1
    rw [this, ← e1]
    simp [bal, h1, h2]
theorem Bal.wrap {a : List (List UInt8)} (obj : Bool) (h : Bal a) : Bal ([opener obj] :: (a ++ [[Jdec.close obj]])) := by
  have o1 := opener_open obj
  have o2 := opener_shut obj
  have c1 : opens [Jdec.close obj] = false := by cases obj <;> decide
  have c2 := close_shut obj
  refine ⟨by simp [bal, bal_app, o1, o2, c1, c2, h.1], fun x y e => ?_⟩
  cases x with
  | nil => exact Int.le_refl _
  | cons p r =>
    injection e with e1 e2
    subst e1
    rw [bal, o1, o2]
    rcases List.append_eq_append_iff.1 e2 with ⟨z, e3, e4⟩ | ⟨z, e3, e4⟩
    · rw [e3, bal_app, h.1]
      cases z with
      | nil => simp [bal]
      | cons q s =>
        injection e4 with e5 e6
        have : s = [] := (List.append_eq_nil_iff.1 e6.symm).1
        rw [this, ← e5]
        simp [bal, c1, c2]
    · have := h.2 r z e3
      simp
      omega
mutual
theorem bal_pcs : ∀ v : Val, Whole v → Bal (pcs v)
  | ⟨k, i, n, t, ks, vs⟩, hv => by
    rw [Whole] at hv
    obtain ⟨ho, hw⟩ := hv
    have pl : ∀ p : List UInt8, Plain p → Bal [p] := fun p hp => .one hp.open hp.shut
    rw [pcs]
    by_cases h1 : k = 1
    · rw [if_pos h1]; exact pl _ (by unfold Plain; decide)
    rw [if_neg h1]
    by_cases h2 : k = 2
    · rw [if_pos h2]; cases i <;> exact pl _ (by unfold Plain; decide)
    rw [if_neg h2]
    by_cases h3 : k = 3
    · rw [if_pos h3]; exact pl _ (plain_num ho.2.2.2.2.2.2.2.1)
    rw [if_neg h3]
    by_cases h4 : k = 4
    · rw [if_pos h4]; exact pl _ (plain_quo _)
    rw [if_neg h4]
    exact .wrap _ (bal_pcss vs hw _ true ks)
theorem bal_pcss : ∀ vs : List Val, Wholes vs → ∀ (obj first : Bool) (ks : List (List UInt8)), Bal (pcss obj first ks vs)
  | [], _, _, _, _ => by rw [pcss]; exact .nil
  | v :: r, hw, obj, first, ks => by
    rw [Wholes] at hw
    have hp := plain_quo (ks.headD [])
    rw [pcss]
    refine .app ?_ (.app ?_ (.app (bal_pcs v hw.1) (bal_pcss r hw.2 obj false ks.tail)))
    · cases first
      · exact .one (by decide) (by decide)
      · exact .nil
    · cases obj
      · exact .nil
      · exact .app (a := [Quo.print (ks.headD [])]) (b := [[58]]) (.one hp.open hp.shut) (.one (by decide) (by decide))
end
/-- The printer's state behind pieces. -/
def wf (ps : List (List UInt8)) : WS := wfold ⟨[], 0, []⟩ ps
theorem wf_snoc (ps : List (List UInt8)) (m : List UInt8) : wf (ps ++ [m]) = wstep (wf ps) m := by
  unfold wf
  rw [wfold_app]
  rfl
theorem within_wf (ps : List (List UInt8)) : within (wf ps) = bal ps := by
  unfold wf
  rw [within_fold]
  simp [within, opens]
/-- What a step may ask of how deep it is. -/
theorem wf_bounds {ps : List (List UInt8)} {m : List UInt8} (h : Gdw (ps ++ [m])) (hl : ps.length ≤ 100000) : 0 ≤ wdeep (wf ps) m ∧ wdeep (wf ps) m ≤ 100000 ∧ -1 ≤ (wf ps).deep ∧ (wf ps).deep ≤ 100000 := by
  have h1 := within_wf ps
  have h2 := h ps [m] rfl
  have h3 := h (ps ++ [m]) [] (by simp)
  have h4 := bal_le ps
  rw [bal_app] at h3
  simp only [bal] at h3
  have e : wdeep (wf ps) m = within (wf ps) - (if shuts m then 1 else 0) := rfl
  have e2 : within (wf ps) = if opens (wf ps).last then (wf ps).deep + 1 else (wf ps).deep := rfl
  have ex : opens m = true → shuts m = true → False := by
    unfold opens shuts
    intro a b
    simp only [Bool.or_eq_true, decide_eq_true_eq] at a b
    rcases a with rfl | rfl <;> rcases b with b | b <;> revert b <;> decide
  rw [e, h1]
  rw [h1] at e2
  have hx : (wf ps).deep = bal ps ∨ (wf ps).deep = bal ps - 1 := by
    split at e2
    · right; omega
    · left; exact e2.symm
  refine ⟨?_, ?_, ?_, ?_⟩
  · cases ho : opens m with
    | true =>
      cases hs : shuts m with
      | true => exact (ex ho hs).elim
      | false => rw [ho, hs] at h3; simp at h3 ⊢; omega
    | false => rw [ho] at h3; simp at h3 ⊢; omega
  · split <;> omega
  · rcases hx with hx | hx <;> omega
  · rcases hx with hx | hx <;> omega
theorem wgap_len {ps : List (List UInt8)} {m : List UInt8} (h : Gdw (ps ++ [m])) (hl : ps.length ≤ 100000) : (wgap (wf ps) m).length ≤ 200001 := by
  obtain ⟨h0, h1, -, -⟩ := wf_bounds h hl
  unfold wgap
  split
  · have := brk_len true (wdeep (wf ps) m).toNat
    unfold brkI
    omega
  · split <;> simp
theorem repeat_blanks (k : Nat) : Lib.repeatL [32, 32] k = (List.replicate k [32, 32]).flatten := by
  induction k with
  | zero => rfl
  | succ k ih =>
    show [32, 32] ++ Lib.repeatL [32, 32] k = _
    rw [ih]
    rfl
end Go.Proofs.YtlfbnfphocpgeaaGreatDoor.Jenc
namespace Go.Proofs.YtlfbnfphocpgeaaGreatDoor.Jenc
open Go.RowKit Kit Txt
open Tre (Val Whole Wholes HoldU HoldP HoldsP KsP At8 cellsV Fine count counts)
open Emb (Turn)
theorem pcss_cons (obj first : Bool) (ks : List (List UInt8)) (v : Val) (r : List Val) : pcss obj first ks (v :: r) = (if first then [] else [[44]]) ++ ((if obj then [Quo.print (ks.headD []), [58]] else []) ++ (pcs v ++ pcss obj false ks.tail r)) := by rw [pcss]
theorem Turn.block {B b k : Nat} {w w' : World} {cs : Array Value} (h : Turn B b w w') (hk : k ≠ b) (hb : w.heap[k]? = some (.cells cs 29 (0, 0))) : w'.heap[k]? = some (.cells cs 29 (0, 0)) := h.2 k cs _ _ hk (by decide) hb
set_option maxRecDepth 100000 in
set_option maxHeartbeats 4000000 in
theorem putkids_any {T : TypeId} {K : FuncId} {P B : Nat} {Gd : List (List UInt8) → Prop} {St : List (List UInt8) → World → Prop} (hp : Printer T K P B Gd St) {v : Val} (hv : Whole v) (hf : ∃ d, Fine d v) (h56 : v.kind = 5 ∨ v.kind = 6)
    (ih : ∀ x ∈ v.kids, ∀ (w : World) (u : Value) (ps : List (List UInt8)), HoldU B w u x → St ps w → Env B w → ps.length + 5 * count x ≤ 100000 → Gd (ps ++ pcs x) → Calls Tryz.prog 51 #[.iface T (.pointer (some ⟨P, 0, none⟩)), u] w fun e w' => e = .returned (.tuple #[]) ∧ St (ps ++ pcs x) w' ∧ Turn B P w w')
    {w : World} {u : Value} {ps : List (List UInt8)} (hu : HoldU B w u v) (hs : St ps w) (he : Env B w) (hn : ps.length + 5 * count v ≤ 100000) (hg : Gd (ps ++ pcs v)) {obj : Bool} (hob : obj = decide (v.kind = 6)) :
    Calls Tryz.prog 76 #[.iface T (.pointer (some ⟨P, 0, none⟩)), .string (txt [opener obj]), u, .string (txt [Jdec.close obj])] w fun e w' => e = .returned (.tuple #[]) ∧ St (ps ++ pcs v) w' ∧ Turn B P w w' := by
  have hcnt := fun x (hx : x ∈ v.kids) => (Tre.count_kids (v := v)).2 x hx
  obtain ⟨k, b, n, s, ks, vs⟩ := v
  obtain ⟨d, hf⟩ := hf
  rw [Fine] at hf
  obtain ⟨-, -, -, hkl, -⟩ := hf
  rw [Whole] at hv
  obtain ⟨⟨l1, l2, a2, a3, a4, a5, a6, hr, hbad, hlen, hkb, hnd⟩, hw⟩ := hv
  replace h56 : k = 5 ∨ k = 6 := h56
  have hob2 : obj = decide (k = 6) := hob
  clear hob
  replace hlen : k = 6 → ks.length = vs.length := hlen
  replace hkb : ∀ x ∈ ks, Utf.bad x = none := hkb
  replace ih : ∀ x ∈ vs, ∀ (w : World) (u : Value) (ps : List (List UInt8)), HoldU B w u x → St ps w → Env B w → ps.length + 5 * count x ≤ 100000 → Gd (ps ++ pcs x) → Calls Tryz.prog 51 #[.iface T (.pointer (some ⟨P, 0, none⟩)), u] w fun e w' => e = .returned (.tuple #[]) ∧ St (ps ++ pcs x) w' ∧ Turn B P w w' := ih
  have hpc : pcs ⟨k, b, n, s, ks, vs⟩ = [opener obj] :: (pcss obj true ks vs ++ [[Jdec.close obj]]) := by rw [pcs, if_neg (by omega), if_neg (by omega), if_neg (by omega), if_neg (by omega), hob2]
  have hpl := pcss_len vs obj true ks
  rw [count] at hn
  rw [hpc] at hg ⊢
  obtain ⟨cs, rfl, hc⟩ := hu
  rw [HoldP] at hc
  obtain ⟨uk, a, c, rfl, hk, hcap, hmax, hx⟩ := hc
  obtain ⟨pk, ck, rfl, hkc, hkm, hkx⟩ := hk
  show Calls Tryz.prog 76 #[.iface T (.pointer (some ⟨P, 0, none⟩)), .string (txt [opener obj]), .agg #[.int .i64 k, .bool b, .bool n.neg, .string (txt n.dig), .int .i64 n.exp, .string (txt s), .slice pk ks.length ck, .slice a vs.length c], .string (txt [Jdec.close obj])] w _
  have hna := hp.ahead
  have hme := hp.meth
  have hcl := hp.call
  obtain ⟨lB, lw, lP⟩ := hp.low _ _ hs
  have hA := World.alloc_heap_new w (.cells #[.int .i64 k, .bool b, .bool n.neg, .string (txt n.dig), .int .i64 n.exp, .string (txt s), .slice pk ks.length ck, .slice a vs.length c] 29)
  have bA : Below w.heap.size w (w.alloc (.cells #[.int .i64 k, .bool b, .bool n.neg, .string (txt n.dig), .int .i64 n.exp, .string (txt s), .slice pk ks.length ck, .slice a vs.length c] 29)) := (Below.refl _ w).alloc (Nat.le_refl _) _
  have hsA := hp.keep _ _ _ hs bA
  have tA : Turn B P w _ := .of_below bA lw
  have heA := he.step tA.1
  obtain ⟨c0, c1, c2, c3, c4, c5, c6, c7⟩ := Tre.eight hA
  have g1 : Gd (ps ++ [[opener obj]]) := hp.pre _ (pcss obj true ks vs ++ [[Jdec.close obj]]) (by simpa using hg)
  have HS1 := Lib.hid (hp.step ps [opener obj] _ hsA (by simp) (by omega) g1)
  have HG := Lib.hid hg
  have HIH := Lib.hid ih
  have HTA := Lib.hid tA
  have HE := Lib.hid heA
  have HA := Lib.hid hA
  have HP := Lib.hid hp
  have HK := Lib.hid hkx
  have HX := Lib.hid hx
  have HKB := Lib.hid hkb
  have HKL := Lib.hid hkl
  have HLEN := Lib.hid hlen
  have HCNT := Lib.hid hcnt
  have HOB := Lib.hid hob2
  have hP1 : w.heap.size ≠ P := by omega
  clear hg ih tA heA hs hsA he bA hA hpc g1 hkx hx hkb hkl hlen hcnt a2 a3 a4 a5 a6 hr hbad hnd hw hp hob2
  go_enter Tryz.func76, Tryz.ntmps76
  go_wp2_with fail
  refine HS1.out.mono ?_
  rintro e w1 ⟨rfl, h1, t1⟩
  have hA1 := Turn.block t1 hP1 HA.out
  clear c0 c1 c2 c3 c4 c5 c6 c7
  obtain ⟨c0, c1, c2, c3, c4, c5, c6, c7⟩ := Tre.eight hA1
  have T1 := Lib.hid (HTA.out.trans t1)
  have HE1 := Lib.hid (HE.out.step t1.1)
  have HS := Lib.hid h1
  have HA1 := Lib.hid hA1
  clear h1 t1 hA1 HS1 HE HTA
  go_wp2_with fail
  go_loopw [16] (fun z wr => ∃ (i : Nat) (qs : List (List UInt8)), z = .int .i64 i ∧ i ≤ vs.length ∧ St qs wr ∧ qs.length + 5 * counts (vs.drop i) + 4 ≤ 100000 ∧ qs ++ pcss obj (decide (i = 0)) (ks.drop i) (vs.drop i) = ps ++ ([opener obj] :: pcss obj true ks vs) ∧ wr.heap[w.heap.size]? = some (.cells #[.int .i64 k, .bool b, .bool n.neg, .string (txt n.dig), .int .i64 n.exp, .string (txt s), .slice pk ks.length ck, .slice a vs.length c] 29 (0, 0)) ∧ Turn B P w wr ∧ Env B wr) (fun z _ => vs.length - (intOf z).toNat)
  case atStart => exact ⟨0, _, rfl, Nat.zero_le _, HS.out, by simp; omega, by simp, HA1.out, T1.out, HE1.out⟩
  case round =>
    obtain ⟨i, qs, rfl, hi, hst, hql, heq, hAr, tr, her⟩ := hrel
    clear c0 c1 c2 c3 c4 c5 c6 c7 HS HA1 T1 HE1
    obtain ⟨c0, c1, c2, c3, c4, c5, c6, c7⟩ := Tre.eight hAr
    by_cases hlt : i < vs.length
    · have hlt' : (i : Int) < (vs.length : Int) := by omega
      have hwi : IntKind.i64.wrap ((i : Int) + 1) = (i : Int) + 1 := by simp only [IntKind.wrap, IntKind.signed, IntKind.bits]; simp; omega
      rcases HX.out with h0 | ⟨g, off, rfl, hgB, hgw, hx⟩
      · subst h0
        exact absurd hlt (Nat.not_lt_zero _)
      obtain ⟨cx, hx8, hxx⟩ := Tre.HoldsP.at hx (List.getElem?_eq_getElem hlt)
      have hxr : At8 wr g (off + i * 8) cx := ⟨hx8.1, fun j hj => (tr.1.cell (p := ⟨g, off + i * 8 + j, none⟩) hgB).trans (hx8.2 j hj)⟩
      have hxh := HoldP.keep tr.1.size (fun q hq _ => tr.1.block q hq) vs[i] hxx
      have hcall := HIH.out vs[i] (List.getElem_mem hlt)
      have hdr : vs.drop i = vs[i] :: vs.drop (i + 1) := List.drop_eq_getElem_cons hlt
      rw [hdr, pcss_cons] at heq
      rw [hdr, counts] at hql
      have hgr := Nat.lt_of_lt_of_le hgw tr.1.size
      have htl : (ks.drop i).tail = ks.drop (i + 1) := List.tail_drop
      rw [htl] at heq
      generalize vs[i] = x at *
      have hxp := pcs_len x
      obtain ⟨R, hR⟩ : ∃ R, pcss obj false (ks.drop (i + 1)) (vs.drop (i + 1)) = R := ⟨_, rfl⟩
      rw [hR] at heq
      have hgd : Gd ((qs ++ ((if decide (i = 0) = true then [] else [[44]]) ++ ((if obj = true then [Quo.print ((ks.drop i).headD []), [58]] else []) ++ (pcs x ++ R)))) ++ [[Jdec.close obj]]) := by
        rw [heq]
        have := HG.out
        simpa using this
      have HR := Lib.hid hR
      have HEQ := Lib.hid heq
      have HGD := Lib.hid hgd
      have HQL := Lib.hid hql
      have HXP := Lib.hid hxp
      clear hxx hx8 hdr hx hR heq hgd hql hxp htl
      obtain ⟨k', b', n', s', ks', vs'⟩ := x
      have hh2 := hxh
      rw [HoldP] at hh2
      obtain ⟨uk', a', c', rfl, ⟨pk', ck', rfl, -⟩, -, -, -⟩ := hh2
      obtain ⟨d0, d1, d2, d3, d4, d5, d6, d7⟩ := hxr.cells
      have hlow := HP.out.low _ _ hst
      have hPw : wr.heap.size ≠ P := by omega
      obtain ⟨wB, hwB⟩ : ∃ wB, wr.alloc (.cells #[.int .i64 k', .bool b', .bool n'.neg, .string (txt n'.dig), .int .i64 n'.exp, .string (txt s'), .slice pk' ks'.length ck', .slice a' vs'.length c'] 29) = wB := ⟨_, rfl⟩
      have kB : Below wr.heap.size wr wB := by
        rw [← hwB]
        exact (Below.refl _ wr).alloc (Nat.le_refl _) _
      have hB0 : wB.heap[wr.heap.size]? = some (.cells #[.int .i64 k', .bool b', .bool n'.neg, .string (txt n'.dig), .int .i64 n'.exp, .string (txt s'), .slice pk' ks'.length ck', .slice a' vs'.length c'] 29 (0, 0)) := by
        rw [← hwB]
        exact World.alloc_heap_new wr _
      have HA0 := Lib.hid ((kB.block _ (lt_of_heap hAr)).trans hAr)
      have HB0 := Lib.hid hB0
      have HS0 := Lib.hid (HP.out.keep _ _ _ hst kB)
      have tB : Turn B P wr wB := .of_below kB hlow.2.1
      have HT0 := Lib.hid (tr.trans tB)
      have HE0 := Lib.hid (her.step tB.1)
      have HXH := Lib.hid (HoldP.keep kB.size (fun q hq hlt => kB.block q hlt) _ hxh)
      have HCALL := Lib.hid hcall
      have HW := Lib.hid hwB
      have hwl := lt_of_heap hAr
      have t44 : (⟨#[44]⟩ : ByteArray) = txt [44] := rfl
      have t58 : (⟨#[58]⟩ : ByteArray) = txt [58] := rfl
      clear hwB kB hB0 tB hst hAr her hcall hxh hxr

      by_cases hi0 : i = 0
      · have hd0 : decide (0 < i) = false := decide_eq_false (by omega)
        have hd1 : decide ((0 : Int) < (i : Int)) = false := decide_eq_false (by omega)
        have HI0 := Lib.hid (show decide (i = 0) = true from decide_eq_true hi0)
        clear hi0
        cases obj with
        | false =>
          have hk6 : k ≠ 6 := of_decide_eq_false HOB.out.symm
          have hgd := HGD.out
          rw [HI0.out] at hgd
          have hk6' : (k == 6) = false := by simp; exact hk6
          have HGDC := Lib.hid hgd
          clear hgd
          go_wp2_with fail
          rw [HW.out]
          go_wp2_with fail
          refine (HCALL.out _ _ (qs) ⟨_, rfl, HXH.out⟩ HS0.out HE0.out (by have := HQL.out; simp; omega) (HP.out.pre _ (R ++ [[Jdec.close false]]) (by simpa using HGDC.out))).mono ?_
          rintro e wz ⟨rfl, hz, tz⟩
          have hAz := Turn.block tz hP1 HA0.out
          have HZ := Lib.hid hz
          have HAZ := Lib.hid hAz
          have HTZ := Lib.hid (HT0.out.trans tz)
          have HEZ := Lib.hid (HE0.out.step tz.1)
          clear hz hAz tz
          go_wp2_with fail
          go_roundw
          case rel => exact ⟨i + 1, _, by go_num, by omega, HZ.out, by have h1 := HQL.out; have h2 := HXP.out; simp; omega, by rw [show decide (i + 1 = 0) = false from decide_eq_false (by omega), HR.out, ← HEQ.out, HI0.out]; simp, HAZ.out, HTZ.out, HEZ.out⟩
          case measure => simp [intOf]; omega
        | true =>
          have hk6 : k = 6 := of_decide_eq_true HOB.out.symm
          have hgd := HGD.out
          rw [HI0.out] at hgd
          subst hk6
          have hik : i < ks.length := by rw [HLEN.out rfl]; exact hlt
          have hik' : (i : Int) < (ks.length : Int) := by omega
          obtain ⟨gk, ok, rfl, hgkB, hgkw, hkx⟩ : ∃ g off, pk = some ⟨g, off, none⟩ ∧ g < B ∧ g < w.heap.size ∧ ∀ (i : Nat) (l : List UInt8), ks[i]? = some l → w.cell? ⟨g, off + i, none⟩ = some (.string (txt l)) := by
            rcases HK.out with h0 | h0
            · subst h0; exact absurd hik (Nat.not_lt_zero _)
            · exact h0
          have hkey := hkx i ks[i] (List.getElem?_eq_getElem hik)
          have hkh : (ks.drop i).headD [] = ks[i] := by rw [List.drop_eq_getElem_cons hik]; rfl
          have hkv := HKB.out ks[i] (List.getElem_mem hik)
          have hkl2 := HKL.out ks[i] (List.getElem_mem hik)
          rw [hkh] at hgd
          have HGDC := Lib.hid hgd
          have HKH := Lib.hid hkh
          generalize ks[i] = kk at *
          clear hkx hkh hgd
          have hkc : wB.cell? ⟨gk, ok + i, none⟩ = some (.string (txt kk)) := (HT0.out.1.cell (p := ⟨gk, ok + i, none⟩) hgkB).trans hkey
          have hgkl : gk < wB.heap.size := Nat.lt_of_lt_of_le hgkw HT0.out.1.size
          have HQ := Lib.hid fun (wx : World) (h : Utf.Laid wx) => quoted_any (w := wx) h (l := kk) (by omega) hkv
          have HML := Lib.hid (show (Quo.print kk).length ≤ 100000 by have := quo_len kk; omega)
          clear hkey hkv hkl2
          go_upto_region 8 with fail
          rw [HW.out]
          clear c0 c1 c2 c3 c4 c5 c6 c7
          obtain ⟨c0, c1, c2, c3, c4, c5, c6, c7⟩ := Tre.eight HA0.out
          go_region_with (first | (go_at_call 75; refine (HQ.out _ (HE0.out.utf.below (Below.refl _ _).drew HE0.out.utf.lt)).mono ?_; rintro e wq ⟨rfl, kq⟩) | (refine (HP.out.step (qs) (Quo.print kk) _ (HP.out.keep _ _ _ HS0.out ((Below.refl _ _).drew.trans kq)) HML.out (by have := HQL.out; simp; omega) (HP.out.pre _ ([58] :: (pcs ⟨k', b', n', s', ks', vs'⟩ ++ (R ++ [[Jdec.close true]]))) (by simpa using HGDC.out))).mono ?_; rintro e w11 ⟨rfl, h1, t1⟩))
          all_goals
            have tq : Turn B P wB w11 := (Turn.of_below ((Below.refl _ _).drew.trans kq) (HP.out.low _ _ HS0.out).2.1).trans t1
            clear t1 kq
            have HA1 := Lib.hid (Turn.block tq hP1 HA0.out)
            have HB1 := Lib.hid (Turn.block tq hPw HB0.out)
            have HS1 := Lib.hid h1
            have HT1 := Lib.hid (HT0.out.trans tq)
            have HE1 := Lib.hid (HE0.out.step tq.1)
            have HXH1 := Lib.hid (HoldP.keep tq.1.size (fun q hq hlt => tq.1.block q hq) _ HXH.out)
            clear h1 tq c0 c1 c2 c3 c4 c5 c6 c7
            obtain ⟨c0, c1, c2, c3, c4, c5, c6, c7⟩ := Tre.eight HA1.out
            go_wp2_with fail
            refine (HP.out.step ((qs) ++ [Quo.print kk]) [58] _ HS1.out (by simp) (by have := HQL.out; simp; omega) (HP.out.pre _ (pcs ⟨k', b', n', s', ks', vs'⟩ ++ (R ++ [[Jdec.close true]])) (by simpa using HGDC.out))).mono ?_
            rintro e w12 ⟨rfl, h2, t2⟩
            have HA2 := Lib.hid (Turn.block t2 hP1 HA1.out)
            have HB2 := Lib.hid (Turn.block t2 hPw HB1.out)
            have HS2 := Lib.hid h2
            have HT2 := Lib.hid (HT1.out.trans t2)
            have HE2 := Lib.hid (HE1.out.step t2.1)
            have HXH2 := Lib.hid (HoldP.keep t2.1.size (fun q hq hlt => t2.1.block q hq) _ HXH1.out)
            clear h2 t2 c0 c1 c2 c3 c4 c5 c6 c7
            obtain ⟨e0, e1, e2, e3, e4, e5, e6, e7⟩ := Tre.eight HB2.out
            go_wp2_with fail
            refine (HCALL.out _ _ (((qs) ++ [Quo.print kk]) ++ [[58]]) ⟨_, rfl, HXH2.out⟩ HS2.out HE2.out (by have := HQL.out; simp; omega) (HP.out.pre _ (R ++ [[Jdec.close true]]) (by simpa using HGDC.out))).mono ?_
            rintro e wz ⟨rfl, hz, tz⟩
            have hAz := Turn.block tz hP1 HA2.out
            have HZ := Lib.hid hz
            have HAZ := Lib.hid hAz
            have HTZ := Lib.hid (HT2.out.trans tz)
            have HEZ := Lib.hid (HE2.out.step tz.1)
            clear hz hAz tz e0 e1 e2 e3 e4 e5 e6 e7
            go_wp2_with fail
            go_roundw
            case rel => exact ⟨i + 1, _, by go_num, by omega, HZ.out, by have h1 := HQL.out; have h2 := HXP.out; simp; omega, by rw [show decide (i + 1 = 0) = false from decide_eq_false (by omega), HR.out, ← HEQ.out, HI0.out, HKH.out]; simp, HAZ.out, HTZ.out, HEZ.out⟩
            case measure => simp [intOf]; omega
      · have hd0 : decide (0 < i) = true := decide_eq_true (by omega)
        have hd1 : (0 : Int) < (i : Int) := by omega
        have HI0 := Lib.hid (show decide (i = 0) = false from decide_eq_false hi0)
        clear hi0
        cases obj with
        | false =>
          have hk6 : k ≠ 6 := of_decide_eq_false HOB.out.symm
          have hgd := HGD.out
          rw [HI0.out] at hgd
          have hk6' : (k == 6) = false := by simp; exact hk6
          have HGDC := Lib.hid hgd
          clear hgd
          go_wp2_with fail
          rw [HW.out]
          go_wp2_with fail
          refine (HP.out.step (qs) [44] _ HS0.out (by simp) (by have := HQL.out; simp; omega) (HP.out.pre _ (pcs ⟨k', b', n', s', ks', vs'⟩ ++ (R ++ [[Jdec.close false]])) (by simpa using HGDC.out))).mono ?_
          rintro e w11 ⟨rfl, h1, t1⟩
          have HA1 := Lib.hid (Turn.block t1 hP1 HA0.out)
          have HB1 := Lib.hid (Turn.block t1 hPw HB0.out)
          have HS1 := Lib.hid h1
          have HT1 := Lib.hid (HT0.out.trans t1)
          have HE1 := Lib.hid (HE0.out.step t1.1)
          have HXH1 := Lib.hid (HoldP.keep t1.1.size (fun q hq hlt => t1.1.block q hq) _ HXH.out)
          clear h1 t1 c0 c1 c2 c3 c4 c5 c6 c7
          obtain ⟨c0, c1, c2, c3, c4, c5, c6, c7⟩ := Tre.eight HA1.out
          obtain ⟨e0, e1, e2, e3, e4, e5, e6, e7⟩ := Tre.eight HB1.out
          go_wp2_with fail
          refine (HCALL.out _ _ (qs ++ [[44]]) ⟨_, rfl, HXH1.out⟩ HS1.out HE1.out (by have := HQL.out; simp; omega) (HP.out.pre _ (R ++ [[Jdec.close false]]) (by simpa using HGDC.out))).mono ?_
          rintro e wz ⟨rfl, hz, tz⟩
          have hAz := Turn.block tz hP1 HA1.out
          have HZ := Lib.hid hz
          have HAZ := Lib.hid hAz
          have HTZ := Lib.hid (HT1.out.trans tz)
          have HEZ := Lib.hid (HE1.out.step tz.1)
          clear hz hAz tz e0 e1 e2 e3 e4 e5 e6 e7
          go_wp2_with fail
          go_roundw
          case rel => exact ⟨i + 1, _, by go_num, by omega, HZ.out, by have h1 := HQL.out; have h2 := HXP.out; simp; omega, by rw [show decide (i + 1 = 0) = false from decide_eq_false (by omega), HR.out, ← HEQ.out, HI0.out]; simp, HAZ.out, HTZ.out, HEZ.out⟩
          case measure => simp [intOf]; omega
        | true =>
          have hk6 : k = 6 := of_decide_eq_true HOB.out.symm
          have hgd := HGD.out
          rw [HI0.out] at hgd
          subst hk6
          have hik : i < ks.length := by rw [HLEN.out rfl]; exact hlt
          have hik' : (i : Int) < (ks.length : Int) := by omega
          obtain ⟨gk, ok, rfl, hgkB, hgkw, hkx⟩ : ∃ g off, pk = some ⟨g, off, none⟩ ∧ g < B ∧ g < w.heap.size ∧ ∀ (i : Nat) (l : List UInt8), ks[i]? = some l → w.cell? ⟨g, off + i, none⟩ = some (.string (txt l)) := by
            rcases HK.out with h0 | h0
            · subst h0; exact absurd hik (Nat.not_lt_zero _)
            · exact h0
          have hkey := hkx i ks[i] (List.getElem?_eq_getElem hik)
          have hkh : (ks.drop i).headD [] = ks[i] := by rw [List.drop_eq_getElem_cons hik]; rfl
          have hkv := HKB.out ks[i] (List.getElem_mem hik)
          have hkl2 := HKL.out ks[i] (List.getElem_mem hik)
          rw [hkh] at hgd
          have HGDC := Lib.hid hgd
          have HKH := Lib.hid hkh
          generalize ks[i] = kk at *
          clear hkx hkh hgd
          go_wp2_with fail
          rw [HW.out]
          go_wp2_with fail
          refine (HP.out.step (qs) [44] _ HS0.out (by simp) (by have := HQL.out; simp; omega) (HP.out.pre _ (Quo.print kk :: [58] :: (pcs ⟨k', b', n', s', ks', vs'⟩ ++ (R ++ [[Jdec.close true]]))) (by simpa using HGDC.out))).mono ?_
          rintro e w11 ⟨rfl, h1, t1⟩
          have HA1 := Lib.hid (Turn.block t1 hP1 HA0.out)
          have HB1 := Lib.hid (Turn.block t1 hPw HB0.out)
          have HS1 := Lib.hid h1
          have HT1 := Lib.hid (HT0.out.trans t1)
          have HE1 := Lib.hid (HE0.out.step t1.1)
          have HXH1 := Lib.hid (HoldP.keep t1.1.size (fun q hq hlt => t1.1.block q hq) _ HXH.out)
          clear h1 t1 c0 c1 c2 c3 c4 c5 c6 c7
          obtain ⟨c0, c1, c2, c3, c4, c5, c6, c7⟩ := Tre.eight HA1.out
          have hkc : w11.cell? ⟨gk, ok + i, none⟩ = some (.string (txt kk)) := (HT1.out.1.cell (p := ⟨gk, ok + i, none⟩) hgkB).trans hkey
          have hgkl : gk < w11.heap.size := Nat.lt_of_lt_of_le hgkw HT1.out.1.size
          have HQ := Lib.hid fun (wx : World) (h : Utf.Laid wx) => quoted_any (w := wx) h (l := kk) (by omega) hkv
          have HML := Lib.hid (show (Quo.print kk).length ≤ 100000 by have := quo_len kk; omega)
          clear hkey hkv hkl2
          go_upto_region 8 with fail
          go_region_with (first | (go_at_call 75; refine (HQ.out _ (HE1.out.utf.below (Below.refl _ _).drew HE1.out.utf.lt)).mono ?_; rintro e wq ⟨rfl, kq⟩) | (refine (HP.out.step (qs ++ [[44]]) (Quo.print kk) _ (HP.out.keep _ _ _ HS1.out ((Below.refl _ _).drew.trans kq)) HML.out (by have := HQL.out; simp; omega) (HP.out.pre _ ([58] :: (pcs ⟨k', b', n', s', ks', vs'⟩ ++ (R ++ [[Jdec.close true]]))) (by simpa using HGDC.out))).mono ?_; rintro e w12 ⟨rfl, h2, t2⟩))
          all_goals
            have tq : Turn B P w11 w12 := (Turn.of_below ((Below.refl _ _).drew.trans kq) (HP.out.low _ _ HS1.out).2.1).trans t2
            clear t2 kq
            have HA2 := Lib.hid (Turn.block tq hP1 HA1.out)
            have HB2 := Lib.hid (Turn.block tq hPw HB1.out)
            have HS2 := Lib.hid h2
            have HT2 := Lib.hid (HT1.out.trans tq)
            have HE2 := Lib.hid (HE1.out.step tq.1)
            have HXH2 := Lib.hid (HoldP.keep tq.1.size (fun q hq hlt => tq.1.block q hq) _ HXH1.out)
            clear h2 tq c0 c1 c2 c3 c4 c5 c6 c7
            obtain ⟨c0, c1, c2, c3, c4, c5, c6, c7⟩ := Tre.eight HA2.out
            go_wp2_with fail
            refine (HP.out.step ((qs ++ [[44]]) ++ [Quo.print kk]) [58] _ HS2.out (by simp) (by have := HQL.out; simp; omega) (HP.out.pre _ (pcs ⟨k', b', n', s', ks', vs'⟩ ++ (R ++ [[Jdec.close true]])) (by simpa using HGDC.out))).mono ?_
            rintro e w13 ⟨rfl, h3, t3⟩
            have HA3 := Lib.hid (Turn.block t3 hP1 HA2.out)
            have HB3 := Lib.hid (Turn.block t3 hPw HB2.out)
            have HS3 := Lib.hid h3
            have HT3 := Lib.hid (HT2.out.trans t3)
            have HE3 := Lib.hid (HE2.out.step t3.1)
            have HXH3 := Lib.hid (HoldP.keep t3.1.size (fun q hq hlt => t3.1.block q hq) _ HXH2.out)
            clear h3 t3 c0 c1 c2 c3 c4 c5 c6 c7
            obtain ⟨e0, e1, e2, e3, e4, e5, e6, e7⟩ := Tre.eight HB3.out
            go_wp2_with fail
            refine (HCALL.out _ _ (((qs ++ [[44]]) ++ [Quo.print kk]) ++ [[58]]) ⟨_, rfl, HXH3.out⟩ HS3.out HE3.out (by have := HQL.out; simp; omega) (HP.out.pre _ (R ++ [[Jdec.close true]]) (by simpa using HGDC.out))).mono ?_
            rintro e wz ⟨rfl, hz, tz⟩
            have hAz := Turn.block tz hP1 HA3.out
            have HZ := Lib.hid hz
            have HAZ := Lib.hid hAz
            have HTZ := Lib.hid (HT3.out.trans tz)
            have HEZ := Lib.hid (HE3.out.step tz.1)
            clear hz hAz tz e0 e1 e2 e3 e4 e5 e6 e7
            go_wp2_with fail
            go_roundw
            case rel => exact ⟨i + 1, _, by go_num, by omega, HZ.out, by have h1 := HQL.out; have h2 := HXP.out; simp; omega, by rw [show decide (i + 1 = 0) = false from decide_eq_false (by omega), HR.out, ← HEQ.out, HI0.out, HKH.out]; simp, HAZ.out, HTZ.out, HEZ.out⟩
            case measure => simp [intOf]; omega
    · obtain rfl : i = vs.length := by omega
      have hd : decide (vs.length < vs.length) = false := by simp
      have hfin : qs ++ [[Jdec.close obj]] = ps ++ ([opener obj] :: (pcss obj true ks vs ++ [[Jdec.close obj]])) := by
        rw [List.drop_length, pcss, List.append_nil] at heq
        rw [heq]
        simp
      have g2 : Gd (qs ++ [[Jdec.close obj]]) := by rw [hfin]; exact HG.out
      have HFIN := Lib.hid hfin
      have HSZ := Lib.hid (HP.out.step qs [Jdec.close obj] _ hst (by simp) (by omega) g2)
      have HTR := Lib.hid tr
      clear hfin g2 hst heq tr her hql
      go_wp2_with fail
      refine HSZ.out.mono ?_
      rintro e wz ⟨rfl, hz, tz⟩
      go_wp2_with fail
      go_end0
      exact ⟨rfl, by rw [← HFIN.out]; exact hz, HTR.out.trans tz⟩
end Go.Proofs.YtlfbnfphocpgeaaGreatDoor.Jenc
