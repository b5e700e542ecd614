/- The contracts of package tree as it landed: placeOf, At, Get. Nothing is claimed here. -/
import Derived.Test.YtjekannajnkejaaDoorTreeFnC
import Derived.Test.YtjekannajnkejaaDoorTreeFnR
import Derived.Test.YtjekannajnkejaaDoorTreeAt
namespace Go.Proofs.YtjekannajnkejaaDoor.Tre
open Go.RowKit Kit Txt
open Num (Dec zero)

/-- What the place is, and what stands there. -/
def Place (v : Val) (key : List UInt8) (z : Int) : Prop := (z = -1 ∧ get v key = none) ∨ ∃ (i : Nat) (h : i < v.kids.length), z = (i : Int) ∧ get v key = some v.kids[i]
theorem idx_place {ks : List (List UInt8)} {vs : List Val} {k : Int} {b : Bool} {n : Dec} {s key : List UInt8} (h6 : k = 6) : Place ⟨k, b, n, s, ks, vs⟩ key (Lib.idxOfS ((ks.map txt).take (min ks.length vs.length)) (txt key)) := by
  subst h6
  have hget : get ⟨6, b, n, s, ks, vs⟩ key = (match ks.findIdx? (· = key) with | some i => vs[i]? | none => none) := by unfold get; exact if_pos rfl
  have hne : ∀ j, j < ks.length → ((ks.map txt).getD j ByteArray.empty = txt key ↔ ks[j]? = some key) := fun j hj => by
    rw [txt_get ks j hj, List.getElem?_eq_getElem hj, Option.some_inj]
    exact ⟨fun h => by rw [← txt_list ks[j], ← txt_list key, h], fun h => by rw [h]⟩
  cases hf : ks.findIdx? (· = key) with
  | none =>
    rw [hf] at hget
    refine .inl ⟨Lib.idxOfS_miss _ _ _ fun j hj h => ?_, hget⟩
    have hj' : j < ks.length := by omega
    have h1 := (hne j hj').1 h
    rw [List.findIdx?_eq_none_iff] at hf
    have := hf _ (List.mem_of_getElem? h1)
    simp at this
  | some i =>
    rw [hf] at hget
    rw [List.findIdx?_eq_some_iff_getElem] at hf
    obtain ⟨hi, he, hb⟩ := hf
    have hno : ∀ j, j < i → (ks.map txt).getD j ByteArray.empty ≠ txt key := fun j hj h => by
      have h1 := (hne j (by omega)).1 h
      have := hb j hj
      rw [List.getElem?_eq_getElem (by omega)] at h1
      injection h1 with h1
      simp [h1] at this
    by_cases hv : i < vs.length
    · refine .inr ⟨i, hv, Lib.idxOfS_hit _ _ _ _ (by omega) (by rw [List.length_map]; omega) ((hne i hi).2 (by rw [List.getElem?_eq_getElem hi]; simpa using he)) hno, ?_⟩
      rw [hget]
      exact List.getElem?_eq_getElem hv
    · refine .inl ⟨Lib.idxOfS_miss _ _ _ fun j hj h => hno j (by omega) h, ?_⟩
      rw [hget]
      exact List.getElem?_eq_none (by omega)

set_option maxRecDepth 100000 in
set_option maxHeartbeats 4000000 in
theorem place_any {v : Val} {w : World} {u : Value} {key : List UInt8} (h : HoldV w u v) : Calls Tryd.prog 35 #[u, .string (txt key)] w fun e w' => (∃ z : Int, e = .returned (.int .i64 z) ∧ Place v key z) ∧ Below w.heap.size w w' := by
  obtain ⟨k, b, n, s, ks, vs⟩ := v
  obtain ⟨cs, rfl, hc⟩ := h
  rw [Hold] at hc
  obtain ⟨uk, a, c, rfl, ⟨pk, ck, rfl, hck, hmk, hxk⟩, hcap, hmax, -⟩ := hc
  show Calls Tryd.prog 35 #[.agg #[.int .i64 k, .bool b, .bool n.neg, .string (txt n.dig), .int .i64 n.exp, .string (txt s), .slice pk ks.length ck, .slice a vs.length c], .string (txt key)] w _
  have hA := World.alloc_heap_new w (.cells #[.int .i64 k, .bool b, .bool n.neg, .string (txt n.dig), .int .i64 n.exp, .string (txt s), .slice pk ks.length ck, .slice a vs.length c] 27)
  have bA : Below w.heap.size w (w.alloc (.cells #[.int .i64 k, .bool b, .bool n.neg, .string (txt n.dig), .int .i64 n.exp, .string (txt s), .slice pk ks.length ck, .slice a vs.length c] 27)) := (Below.refl _ w).alloc (Nat.le_refl _) _
  obtain ⟨c0, c1, c2, c3, c4, c5, c6, c7⟩ := eight hA
  by_cases h6 : k = 6
  · have hp := idx_place (ks := ks) (vs := vs) (b := b) (n := n) (s := s) (key := key) h6
    subst h6
    have hi : ∀ wx, Below w.heap.size w wx → Calls Tryd.prog 43 #[.slice pk (min ks.length vs.length) ck, .string (txt key)] wx fun e w' => e = .returned (.int .i64 (Lib.idxOfS ((ks.map txt).take (min ks.length vs.length)) (txt key))) ∧ w' = wx := fun wx hb => by
      rcases hxk with rfl | ⟨g, off, rfl, hg, hx⟩
      · rw [show min ([] : List (List UInt8)).length vs.length = 0 by simp]
        exact Tryd.slices_Index_string_empty pk ck (txt key) wx
      · exact Tryd.slices_Index_string g off (min ks.length vs.length) ck (ks.map txt) (txt key) wx (by rw [List.length_map]; omega) (by omega) (fun j hj => by
          have hj' : j < ks.length := by simpa using hj
          rw [txt_get ks j hj']
          exact (hb.cell (p := ⟨g, off + j, none⟩) hg).trans (hx j _ (List.getElem?_eq_getElem hj')))
    have hI := hi _ bA
    have HP := Lib.hid hp
    generalize Lib.idxOfS ((ks.map txt).take (min ks.length vs.length)) (txt key) = z at *
    clear hi hxk hp
    have hmn : min (ks.length : Int) (vs.length : Int) = ((min ks.length vs.length : Nat) : Int) := by omega
    have hmn2 : min ks.length vs.length ≤ ck := by omega
    obtain ⟨m, hm⟩ : ∃ m, min ks.length vs.length = m := ⟨_, rfl⟩
    rw [hm] at hmn hmn2 hI
    clear hm
    go_enter Tryd.func35, Tryd.ntmps35
    go_wp2_with fail
    refine hI.mono ?_
    rintro e w1 ⟨rfl, rfl⟩
    go_wp2_with fail
    go_ret
    exact ⟨⟨_, rfl, HP.out⟩, bA⟩
  · have hp : Place ⟨k, b, n, s, ks, vs⟩ key (-1) := .inl ⟨rfl, by unfold get; exact if_neg h6⟩
    have h6' : (k != 6) = true := by simpa using h6
    have HP := Lib.hid hp
    clear hp h6 hxk
    go_enter Tryd.func35, Tryd.ntmps35
    go_wp2_with fail
    go_ret
    exact ⟨⟨_, rfl, HP.out⟩, bA⟩
theorem ats_mild : ∀ (l : List (List UInt8)) (v x : Val), Mild v → count v < 1000000 → ats v l = some x → Mild x ∧ count x < 1000000
  | [], v, x, hm, hc, h => by
    rw [ats] at h
    injection h with h
    subst h
    exact ⟨hm, hc⟩
  | k :: l, v, x, hm, hc, h => by
    rw [ats] at h
    cases hg : get v k with
    | none =>
      rw [hg] at h
      cases h
    | some y =>
      rw [hg] at h
      have hy := get_kid hg
      refine ats_mild l y x (hm.kids v y hy) ?_ h
      obtain ⟨k', b, n, s, ks, vs⟩ := v
      rw [count] at hc
      have := counts_memF (vs := vs) hy
      omega
theorem holdF_none (B : Nat) (w : World) : HoldF B w (.agg #[.int .i64 0, .bool false, .bool false, .string ⟨#[]⟩, .int .i64 0, .string ⟨#[]⟩, .slice none 0 0, .slice none 0 0]) none' := by
  refine ⟨_, rfl, ?_⟩
  unfold none'
  rw [HoldP]
  exact ⟨.slice none 0 0, none, 0, rfl, ⟨none, 0, rfl, Nat.le_refl _, by omega, .inl rfl⟩, Nat.le_refl _, by omega, .inl rfl⟩

/-- What At tells. -/
def AtTold (v : Val) (path : List (List UInt8)) (w : World) (e : Ending) (w' : World) : Prop := (∃ y, e = .returned (.tuple #[y, .bool (ats v path).isSome]) ∧ HoldF w.heap.size w' y ((ats v path).getD none')) ∧ Below w.heap.size w w'

set_option maxRecDepth 100000 in
set_option maxHeartbeats 8000000 in
theorem tat_of {v : Val} {w : World} {u p : Value} {path : List (List UInt8)} (hm : Mild v) (hct : count v < 1000000) (h : HoldV w u v) (hp : Ks w p path) : Calls Tryd.prog 22 #[u, p] w (AtTold v path w) := by
  obtain ⟨pp, cp, rfl, hcp, hmp, hxp⟩ := hp
  obtain ⟨pk, ck, a, c, rfl⟩ := holdV_form h
  have hA := new_of (World.alloc_heap_new w (.cells #[.int .i64 v.kind, .bool v.is, .bool v.num.neg, .string (txt v.num.dig), .int .i64 v.num.exp, .string (txt v.str), .slice pk v.keys.length ck, .slice a v.kids.length c] 27)) (.cells #[.int .i64 0, .bool false, .bool false, .string ⟨#[]⟩, .int .i64 0, .string ⟨#[]⟩, .slice none 0 0, .slice none 0 0] 27)
  have hB := World.alloc_heap_new (w.alloc (.cells #[.int .i64 v.kind, .bool v.is, .bool v.num.neg, .string (txt v.num.dig), .int .i64 v.num.exp, .string (txt v.str), .slice pk v.keys.length ck, .slice a v.kids.length c] 27)) (.cells #[.int .i64 0, .bool false, .bool false, .string ⟨#[]⟩, .int .i64 0, .string ⟨#[]⟩, .slice none 0 0, .slice none 0 0] 27)
  rw [World.size_alloc] at hB
  have b0 : Below w.heap.size w ((w.alloc (.cells #[.int .i64 v.kind, .bool v.is, .bool v.num.neg, .string (txt v.num.dig), .int .i64 v.num.exp, .string (txt v.str), .slice pk v.keys.length ck, .slice a v.kids.length c] 27)).alloc (.cells #[.int .i64 0, .bool false, .bool false, .string ⟨#[]⟩, .int .i64 0, .string ⟨#[]⟩, .slice none 0 0, .slice none 0 0] 27)) := ((Below.refl _ w).alloc (Nat.le_refl _) _).alloc (by simp) _
  obtain ⟨w0, hw0⟩ : ∃ w0, (w.alloc (.cells #[.int .i64 v.kind, .bool v.is, .bool v.num.neg, .string (txt v.num.dig), .int .i64 v.num.exp, .string (txt v.str), .slice pk v.keys.length ck, .slice a v.kids.length c] 27)).alloc (.cells #[.int .i64 0, .bool false, .bool false, .string ⟨#[]⟩, .int .i64 0, .string ⟨#[]⟩, .slice none 0 0, .slice none 0 0] 27) = w0 := ⟨_, rfl⟩
  rw [hw0] at hA hB b0
  have HV := Lib.hid h
  have HMC := Lib.hid (And.intro hm hct)
  clear h hm hct
  go_enter Tryd.func22, Tryd.ntmps22
  go_wp2_with fail
  clear hw0
  generalize hk0 : v.kind = k0 at *
  generalize hi0 : v.is = i0 at *
  generalize hn0 : v.num = n0 at *
  generalize hs0 : v.str = s0 at *
  generalize hlk0 : v.keys.length = lk0 at *
  generalize hlv0 : v.kids.length = lv0 at *
  have hstart : ∃ x : Val, ats v (path.take 0) = some x ∧ HoldV w (.agg #[.int .i64 k0, .bool i0, .bool n0.neg, .string (txt n0.dig), .int .i64 n0.exp, .string (txt s0), .slice pk lk0 ck, .slice a lv0 c]) x := ⟨v, by rw [List.take_zero, ats], HV.out⟩
  have HST := Lib.hid hstart
  clear hk0 hi0 hn0 hs0 hlk0 hlv0 hstart HV
  go_loopw [11] (fun y wr => ∃ j : Nat, j ≤ path.length ∧ y = .int .i64 j ∧ (∃ (x : Val) (q0 q1 q2 q3 q4 q5 q6 q7 : Value), ats v (path.take j) = some x ∧ HoldV w (.agg #[q0, q1, q2, q3, q4, q5, q6, q7]) x ∧ wr.heap[w.heap.size]? = some (.cells #[q0, q1, q2, q3, q4, q5, q6, q7] 27 (0, 0))) ∧ wr.heap[w.heap.size + 1]? = some (.cells #[.int .i64 0, .bool false, .bool false, .string ⟨#[]⟩, .int .i64 0, .string ⟨#[]⟩, .slice none 0 0, .slice none 0 0] 27 (0, 0)) ∧ Below w.heap.size w wr) (fun y _ => path.length - (intOf y).toNat)
  case atStart =>
    obtain ⟨x, h1, h2⟩ := HST.out
    exact ⟨0, Nat.zero_le _, rfl, ⟨x, _, _, _, _, _, _, _, _, h1, h2, hA⟩, hB, b0⟩
  case round =>
    obtain ⟨j, hj, rfl, ⟨x, q0, q1, q2, q3, q4, q5, q6, q7, hat, hx, hA2⟩, hB2, bB⟩ := hrel
    clear hA hB b0 HST
    obtain ⟨pk2, ck2, a2, c2, he⟩ := holdV_form hx
    injection he with he
    injection he with he
    injection he with e0 he
    injection he with e1 he
    injection he with e2 he
    injection he with e3 he
    injection he with e4 he
    injection he with e5 he
    injection he with e6 he
    injection he with e7 he
    subst e0; subst e1; subst e2; subst e3; subst e4; subst e5; subst e6; subst e7
    clear he
    have hmx := ats_mild _ v x HMC.out.1 HMC.out.2 hat
    obtain ⟨c0, c1, c2', c3, c4, c5, c6, c7⟩ := eight hA2
    have f0 := free_of hA2
    have g0 := free_of hB2
    obtain ⟨d0, d1, d2, d3, d4, d5, d6, d7⟩ := eight hB2
    have hlA := lt_of_heap hA2
    have hlB := lt_of_heap hB2
    by_cases hlt : j < path.length
    · have hlt' : (j : Int) < (path.length : Int) := by omega
      rcases hxp with rfl | ⟨g, off, rfl, hg, hxp⟩
      · exact absurd hlt (Nat.not_lt_zero _)
      have hcell := (bB.cell (p := ⟨g, off + j, none⟩) hg).trans (hxp j _ (List.getElem?_eq_getElem hlt))
      have hnext := ats_take (v := v) hlt
      rw [hat] at hnext
      have hplace := place_any (key := path[j]) (hx.below bB)
      have hstop : ats v (path.take (j + 1)) = none → ats v path = none := ats_stop
      generalize path[j] = key at *
      have wk : IntKind.i64.wrap ((j : Int) + 1) = (j : Int) + 1 := by simp only [IntKind.wrap, IntKind.signed, IntKind.bits]; simp; omega
      have HXP := Lib.hid hxp
      have HNX := Lib.hid hnext
      have HSP := Lib.hid hstop
      have HX := Lib.hid hx
      have HPL := Lib.hid hplace
      clear hxp hnext hstop hx hplace hat hmx
      generalize hk0 : x.kind = k0 at *
      generalize hi0 : x.is = i0 at *
      generalize hn0 : x.num = n0 at *
      generalize hs0 : x.str = s0 at *
      generalize hlk0 : x.keys.length = lk0 at *
      generalize hlv0 : x.kids.length = lv0 at *
      have HLV := Lib.hid hlv0
      clear hk0 hi0 hn0 hs0 hlk0 hlv0
      go_wp2_with fail
      refine HPL.out.mono ?_
      rintro e w1 ⟨⟨z, rfl, hz⟩, k1⟩
      have b1 := bB.trans (k1.mono bB.size)
      have hA3 := (k1.block _ hlA).trans hA2
      have hB3 := (k1.block _ hlB).trans hB2
      clear c0 c1 c2' c3 c4 c5 c6 c7 d0 d1 d2 d3 d4 d5 d6 d7 f0 g0 hA2 hB2 HPL
      obtain ⟨c0, c1, c2', c3, c4, c5, c6, c7⟩ := eight hA3
      obtain ⟨d0, d1, d2, d3, d4, d5, d6, d7⟩ := eight hB3
      have f0 := free_of hA3 0
      have f1 := free_of hA3 1
      have f2 := free_of hA3 2
      have f3 := free_of hA3 3
      have f4 := free_of hA3 4
      have f5 := free_of hA3 5
      have f6 := free_of hA3 6
      have f7 := free_of hA3 7
      have g0 := free_of hB3 0
      have g1 := free_of hB3 1
      have g2 := free_of hB3 2
      have g3 := free_of hB3 3
      have g4 := free_of hB3 4
      have g5 := free_of hB3 5
      have g6 := free_of hB3 6
      have g7 := free_of hB3 7
      rcases hz with ⟨rfl, hno⟩ | ⟨i, hi, rfl, hgi⟩
      · have HE := Lib.hid (HSP.out (by rw [HNX.out]; exact hno))
        clear hno
        have fin := put8_below b1 (g := w.heap.size + 1) (by omega) 0 (.int .i64 0) (.bool false) (.bool false) (.string ⟨#[]⟩) (.int .i64 0) (.string ⟨#[]⟩) (.slice none 0 0) (.slice none 0 0)
        unfold put8 at fin
        have FIN := Lib.hid fin
        clear fin
        go_wp2_with fail
        have h9 := set8_own hB3 (.int .i64 0) (.bool false) (.bool false) (.string ⟨#[]⟩) (.int .i64 0) (.string ⟨#[]⟩) (.slice none 0 0) (.slice none 0 0)
        obtain ⟨d0, d1, d2, d3, d4, d5, d6, d7⟩ := eight h9
        refine bodyPost_ret (v := .tuple #[.agg #[.int .i64 0, .bool false, .bool false, .string ⟨#[]⟩, .int .i64 0, .string ⟨#[]⟩, .slice none 0 0, .slice none 0 0], .bool false]) (by simp [results, Tryd.results22, go_sem, d0, d1, d2, d3, d4, d5, d6, d7]) rfl ?_
        exact ⟨⟨_, by rw [HE.out]; rfl, by rw [HE.out]; exact holdF_none _ _⟩, FIN.out⟩
      · have hi2 : i < lv0 := by rw [← HLV.out]; exact hi
        have hi' : (i : Int) < (lv0 : Int) := by omega
        obtain ⟨cs, hcs, hH⟩ := HX.out
        have hkid : ∃ (gk ok : Nat) (ck8 : List Value), a2 = some ⟨gk, ok, none⟩ ∧ gk < w.heap.size ∧ At8 w gk (ok + i * 8) ck8 ∧ Hold w ck8 x.kids[i] := by
          clear HNX HSP HX HLV hgi hi' hi2
          obtain ⟨k, b, n, s, ks, vs⟩ := x
          rw [Hold] at hH
          obtain ⟨uk, a3, c3', rfl, -, -, -, hv⟩ := hH
          unfold cellsV at hcs
          injection hcs with hcs
          injection hcs with hcs
          injection hcs with _ hcs
          injection hcs with _ hcs
          injection hcs with _ hcs
          injection hcs with _ hcs
          injection hcs with _ hcs
          injection hcs with _ hcs
          injection hcs with _ hcs
          injection hcs with e7 hcs
          injection e7 with e7 _ _
          subst e7
          rcases hv with hv | ⟨gk, ok, ha, hgk, hxk⟩
          · have h2 : i < vs.length := hi
            rw [hv] at h2
            exact absurd h2 (Nat.not_lt_zero _)
          · obtain ⟨ck8, h8, hh⟩ := Holds.at hxk (List.getElem?_eq_getElem hi)
            exact ⟨gk, ok, ck8, ha, hgk, h8, hh⟩
        obtain ⟨gk, ok, ck8, rfl, hgk, h8, hH2⟩ := hkid
        have HNX2 := Lib.hid (HNX.out.trans hgi)
        clear hgi HX hcs hH
        generalize x.kids[i] = y at *
        have hHV : HoldV w (.agg ck8.toArray) y := ⟨ck8, rfl, hH2⟩
        obtain ⟨pk3, ck3, a3, c3', he⟩ := holdV_form hHV
        injection he with he
        have he2 : ck8 = [.int .i64 y.kind, .bool y.is, .bool y.num.neg, .string (txt y.num.dig), .int .i64 y.num.exp, .string (txt y.str), .slice pk3 y.keys.length ck3, .slice a3 y.kids.length c3'] := by simpa using congrArg Array.toList he
        subst he2
        clear he
        have h8' := h8.below hgk b1
        have hgl := Nat.lt_of_lt_of_le hgk b1.size
        have x0 := h8'.2 0 (by omega)
        have x1 := h8'.2 1 (by omega)
        have x2 := h8'.2 2 (by omega)
        have x3 := h8'.2 3 (by omega)
        have x4 := h8'.2 4 (by omega)
        have x5 := h8'.2 5 (by omega)
        have x6 := h8'.2 6 (by omega)
        have x7 := h8'.2 7 (by omega)
        simp only [Nat.add_zero, List.getElem?_cons_zero, List.getElem?_cons_succ] at x0 x1 x2 x3 x4 x5 x6 x7
        have HHV := Lib.hid hHV
        have rel : ∃ (x : Val) (q0 q1 q2 q3 q4 q5 q6 q7 : Value), ats v (path.take (j + 1)) = some x ∧ HoldV w (.agg #[q0, q1, q2, q3, q4, q5, q6, q7]) x ∧ (put8 w1 w.heap.size 0 (.int .i64 y.kind) (.bool y.is) (.bool y.num.neg) (.string (txt y.num.dig)) (.int .i64 y.num.exp) (.string (txt y.str)) (.slice pk3 y.keys.length ck3) (.slice a3 y.kids.length c3')).heap[w.heap.size]? = some (.cells #[q0, q1, q2, q3, q4, q5, q6, q7] 27 (0, 0)) := by
          refine ⟨y, _, _, _, _, _, _, _, _, HNX2.out, HHV.out, ?_⟩
          exact set8_own hA3 _ _ _ _ _ _ _ _
        have rel2 := (put8_block (W := w1) (g := w.heap.size) (k := w.heap.size + 1) (o := 0) (by omega) (.int .i64 y.kind) (.bool y.is) (.bool y.num.neg) (.string (txt y.num.dig)) (.int .i64 y.num.exp) (.string (txt y.str)) (.slice pk3 y.keys.length ck3) (.slice a3 y.kids.length c3')).trans hB3
        have rel3 := put8_below b1 (g := w.heap.size) (Nat.le_refl _) 0 (.int .i64 y.kind) (.bool y.is) (.bool y.num.neg) (.string (txt y.num.dig)) (.int .i64 y.num.exp) (.string (txt y.str)) (.slice pk3 y.keys.length ck3) (.slice a3 y.kids.length c3')
        unfold put8 at rel rel2 rel3
        have R1 := Lib.hid rel
        have R2 := Lib.hid rel2
        have R3 := Lib.hid rel3
        clear rel rel2 rel3 hHV hH2 h8 h8' hi HHV HNX2 HNX HSP HXP HLV HMC
        generalize y.kind = k9 at *
        generalize y.is = i9 at *
        generalize y.num = n9 at *
        generalize y.str = s9 at *
        generalize y.keys.length = lk9 at *
        generalize y.kids.length = lv9 at *
        have w1d : decide ((i : Int) < 0) = false := by simp
        have w2d : ¬ ((i : Int) < 0) := by omega
        go_wp2_with fail
        go_roundw
        case rel => exact ⟨j + 1, by omega, by go_num, R1.out, R2.out, R3.out⟩
        case measure => simp [intOf]; omega
    · obtain rfl : j = path.length := by omega
      rw [List.take_length] at hat
      have hcp2 := tcopy_of x hmx.1 hmx.2 wr _ (hx.below bB)
      have HC := Lib.hid hcp2
      have HAT := Lib.hid hat
      clear hcp2 hat hx hmx
      generalize hk0 : x.kind = k0 at *
      generalize hi0 : x.is = i0 at *
      generalize hn0 : x.num = n0 at *
      generalize hs0 : x.str = s0 at *
      generalize hlk0 : x.keys.length = lk0 at *
      generalize hlv0 : x.kids.length = lv0 at *
      clear hk0 hi0 hn0 hs0 hlk0 hlv0
      go_wp2_with fail
      refine HC.out.mono ?_
      rintro e w1 ⟨⟨cs, rfl, hsep⟩, k1⟩
      have b1 := bB.trans (k1.mono bB.size)
      have hB3 := (k1.block _ hlB).trans hB2
      have hlo := bB.size
      clear c0 c1 c2' c3 c4 c5 c6 c7 d0 d1 d2 d3 d4 d5 d6 d7 f0 g0 hA2 hB2 HC
      have hF : HoldF w.heap.size w1 (.agg cs.toArray) x := ⟨cs, rfl, HoldP.mono (fun g h _ => by omega) x (Sep.holdP x hsep)⟩
      have hU := hsep
      obtain ⟨pk3, ck3, a3, c3', he⟩ := holdV_form hF.hold
      injection he with he
      have he2 : cs = [.int .i64 x.kind, .bool x.is, .bool x.num.neg, .string (txt x.num.dig), .int .i64 x.num.exp, .string (txt x.str), .slice pk3 x.keys.length ck3, .slice a3 x.kids.length c3'] := by simpa using congrArg Array.toList he
      subst he2
      clear he hF hU
      obtain ⟨d0, d1, d2, d3, d4, d5, d6, d7⟩ := eight hB3
      have g0 := free_of hB3 0
      have g1 := free_of hB3 1
      have g2 := free_of hB3 2
      have g3 := free_of hB3 3
      have g4 := free_of hB3 4
      have g5 := free_of hB3 5
      have g6 := free_of hB3 6
      have g7 := free_of hB3 7
      have fin := put8_below b1 (g := w.heap.size + 1) (by omega) 0 (.int .i64 x.kind) (.bool x.is) (.bool x.num.neg) (.string (txt x.num.dig)) (.int .i64 x.num.exp) (.string (txt x.str)) (.slice pk3 x.keys.length ck3) (.slice a3 x.kids.length c3')
      have fin2 : HoldF w.heap.size (put8 w1 (w.heap.size + 1) 0 (.int .i64 x.kind) (.bool x.is) (.bool x.num.neg) (.string (txt x.num.dig)) (.int .i64 x.num.exp) (.string (txt x.str)) (.slice pk3 x.keys.length ck3) (.slice a3 x.kids.length c3')) (.agg #[.int .i64 x.kind, .bool x.is, .bool x.num.neg, .string (txt x.num.dig), .int .i64 x.num.exp, .string (txt x.str), .slice pk3 x.keys.length ck3, .slice a3 x.kids.length c3']) x :=
        ⟨_, rfl, HoldP.mono (fun g h _ => by omega) x (Sep.holdP x (Sep.keep x (fun q h1 h2 => put8_block (by omega) _ _ _ _ _ _ _ _) hsep))⟩
      have h9 := set8_own hB3 (.int .i64 x.kind) (.bool x.is) (.bool x.num.neg) (.string (txt x.num.dig)) (.int .i64 x.num.exp) (.string (txt x.str)) (.slice pk3 x.keys.length ck3) (.slice a3 x.kids.length c3')
      unfold put8 at fin fin2
      have FIN := Lib.hid fin
      have FIN2 := Lib.hid fin2
      have H9 := Lib.hid h9
      clear fin fin2 h9 hsep
      generalize x.kind = k9 at *
      generalize x.is = i9 at *
      generalize x.num = n9 at *
      generalize x.str = s9 at *
      generalize x.keys.length = lk9 at *
      generalize x.kids.length = lv9 at *
      go_wp2_with fail
      obtain ⟨d0, d1, d2, d3, d4, d5, d6, d7⟩ := eight H9.out
      refine bodyPost_ret (v := .tuple #[.agg #[.int .i64 k9, .bool i9, .bool n9.neg, .string (txt n9.dig), .int .i64 n9.exp, .string (txt s9), .slice pk3 lk9 ck3, .slice a3 lv9 c3'], .bool true]) (by simp [results, Tryd.results22, go_sem, d0, d1, d2, d3, d4, d5, d6, d7]) rfl ?_
      exact ⟨⟨_, by rw [HAT.out]; rfl, by rw [HAT.out]; exact FIN2.out⟩, FIN.out⟩
set_option maxRecDepth 100000 in
set_option maxHeartbeats 4000000 in
theorem tget_of {v : Val} {w : World} {u : Value} {key : List UInt8} (hm : Mild v) (hct : count v < 1000000) (h : HoldV w u v) : Calls Tryd.prog 20 #[u, .string (txt key)] w (AtTold v [key] w) := by
  obtain ⟨pk, ck, a, c, rfl⟩ := holdV_form h
  have hB := World.alloc_heap_new (w.alloc (.cells #[.int .i64 v.kind, .bool v.is, .bool v.num.neg, .string (txt v.num.dig), .int .i64 v.num.exp, .string (txt v.str), .slice pk v.keys.length ck, .slice a v.kids.length c] 27)) (.cells #[.int .i64 0, .bool false, .bool false, .string ⟨#[]⟩, .int .i64 0, .string ⟨#[]⟩, .slice none 0 0, .slice none 0 0] 27)
  rw [World.size_alloc] at hB
  have hA := new_of (World.alloc_heap_new w (.cells #[.int .i64 v.kind, .bool v.is, .bool v.num.neg, .string (txt v.num.dig), .int .i64 v.num.exp, .string (txt v.str), .slice pk v.keys.length ck, .slice a v.kids.length c] 27)) (.cells #[.int .i64 0, .bool false, .bool false, .string ⟨#[]⟩, .int .i64 0, .string ⟨#[]⟩, .slice none 0 0, .slice none 0 0] 27)
  have b0 : Below w.heap.size w ((w.alloc (.cells #[.int .i64 v.kind, .bool v.is, .bool v.num.neg, .string (txt v.num.dig), .int .i64 v.num.exp, .string (txt v.str), .slice pk v.keys.length ck, .slice a v.kids.length c] 27)).alloc (.cells #[.int .i64 0, .bool false, .bool false, .string ⟨#[]⟩, .int .i64 0, .string ⟨#[]⟩, .slice none 0 0, .slice none 0 0] 27)) := ((Below.refl _ w).alloc (Nat.le_refl _) _).alloc (by simp) _
  obtain ⟨w0, hw0⟩ : ∃ w0, (w.alloc (.cells #[.int .i64 v.kind, .bool v.is, .bool v.num.neg, .string (txt v.num.dig), .int .i64 v.num.exp, .string (txt v.str), .slice pk v.keys.length ck, .slice a v.kids.length c] 27)).alloc (.cells #[.int .i64 0, .bool false, .bool false, .string ⟨#[]⟩, .int .i64 0, .string ⟨#[]⟩, .slice none 0 0, .slice none 0 0] 27) = w0 := ⟨_, rfl⟩
  rw [hw0] at hA hB b0
  have hP0 := World.alloc_heap_new w0 (.cells #[.string (txt key)] 9)
  have hA1 := new_of hA (.cells #[.string (txt key)] 9)
  have hB1 := new_of hB (.cells #[.string (txt key)] 9)
  have b1 : Below w.heap.size w (w0.alloc (.cells #[.string (txt key)] 9)) := b0.alloc b0.size _
  have hks : Ks (w0.alloc (.cells #[.string (txt key)] 9)) (.slice (some ⟨w0.heap.size, 0, none⟩) 1 1) [key] := ⟨_, 1, rfl, Nat.le_refl _, by omega, .inr ⟨w0.heap.size, 0, rfl, by simp, fun i l hi => by
    rcases i with _ | i
    · simp at hi
      subst hi
      exact cell_of hP0 0
    · simp at hi⟩⟩
  have hat := tat_of hm hct (h.below b1) hks
  have HAT := Lib.hid hat
  clear hat hks hm hct h
  obtain ⟨c0, c1, c2, c3, c4, c5, c6, c7⟩ := eight hA
  go_enter Tryd.func20, Tryd.ntmps20
  go_wp2_with fail
  clear hw0
  go_wp2_with fail
  refine HAT.out.mono ?_
  rintro e w1 ⟨⟨y, rfl, hy⟩, k1⟩
  have b2 := b1.trans (k1.mono b1.size)
  have hB2 := (k1.block _ (lt_of_heap hB1)).trans hB1
  have hlo := b1.size
  have hlB := lt_of_heap hB
  rw [World.size_alloc] at hlo
  have hF : HoldF w.heap.size w1 y ((ats v [key]).getD none') := hy.mono (by rw [World.size_alloc]; omega)
  generalize hxx : (ats v [key]).getD none' = x at *
  generalize hbb : (ats v [key]).isSome = bs at *
  have HXX := Lib.hid hxx
  have HBB := Lib.hid hbb
  clear hxx hbb
  obtain ⟨pk3, ck3, a3, c3', rfl⟩ := holdV_form hF.hold
  obtain ⟨d0, d1, d2, d3, d4, d5, d6, d7⟩ := eight hB2
  have g0 := free_of hB2 0
  have g1 := free_of hB2 1
  have g2 := free_of hB2 2
  have g3 := free_of hB2 3
  have g4 := free_of hB2 4
  have g5 := free_of hB2 5
  have g6 := free_of hB2 6
  have g7 := free_of hB2 7
  obtain ⟨cs, hcs, hP⟩ := hy
  have fin := put8_below b2 (g := w.heap.size + 1) (by omega) 0 (.int .i64 x.kind) (.bool x.is) (.bool x.num.neg) (.string (txt x.num.dig)) (.int .i64 x.num.exp) (.string (txt x.str)) (.slice pk3 x.keys.length ck3) (.slice a3 x.kids.length c3')
  have fin2 : HoldF w.heap.size (put8 w1 (w.heap.size + 1) 0 (.int .i64 x.kind) (.bool x.is) (.bool x.num.neg) (.string (txt x.num.dig)) (.int .i64 x.num.exp) (.string (txt x.str)) (.slice pk3 x.keys.length ck3) (.slice a3 x.kids.length c3')) (.agg #[.int .i64 x.kind, .bool x.is, .bool x.num.neg, .string (txt x.num.dig), .int .i64 x.num.exp, .string (txt x.str), .slice pk3 x.keys.length ck3, .slice a3 x.kids.length c3']) x := by
    refine ⟨cs, hcs, HoldP.mono (X := ((w0.alloc (.cells #[.string (txt key)] 9)).heap.size ≤ ·)) (fun g h _ => by have h : _ ≤ g := h; rw [World.size_alloc] at h; omega) x (HoldP.keep (by rw [put8_size]; exact Nat.le_refl _) (fun q h1 h2 => put8_block (by have h1 : _ ≤ q := h1; rw [World.size_alloc] at h1; omega) _ _ _ _ _ _ _ _) x hP)⟩
  have h9 := set8_own hB2 (.int .i64 x.kind) (.bool x.is) (.bool x.num.neg) (.string (txt x.num.dig)) (.int .i64 x.num.exp) (.string (txt x.str)) (.slice pk3 x.keys.length ck3) (.slice a3 x.kids.length c3')
  unfold put8 at fin fin2
  have FIN := Lib.hid fin
  have FIN2 := Lib.hid fin2
  have H9 := Lib.hid h9
  clear fin fin2 h9 hP hcs hF HAT
  generalize x.kind = k9 at *
  generalize x.is = i9 at *
  generalize x.num = n9 at *
  generalize x.str = s9 at *
  generalize x.keys.length = lk9 at *
  generalize x.kids.length = lv9 at *
  go_wp2_with fail
  obtain ⟨d0, d1, d2, d3, d4, d5, d6, d7⟩ := eight H9.out
  refine bodyPost_ret (v := .tuple #[.agg #[.int .i64 k9, .bool i9, .bool n9.neg, .string (txt n9.dig), .int .i64 n9.exp, .string (txt s9), .slice pk3 lk9 ck3, .slice a3 lv9 c3'], .bool bs]) (by simp [results, Tryd.results20, go_sem, d0, d1, d2, d3, d4, d5, d6, d7]) rfl ?_
  exact ⟨⟨_, by rw [HBB.out], by rw [HXX.out]; exact FIN2.out⟩, FIN.out⟩
end Go.Proofs.YtjekannajnkejaaDoor.Tre
