/- The contract of the document's own answer for layer 8 (package tabulariumref08): Get. Nothing is claimed here. -/
import Derived.Test.YtjekannajnkejaaDoorTreeHold
import Derived.Lib.Hide
namespace Go.Proofs.YtjekannajnkejaaDoor.Tre
open Go.RowKit Kit Txt
open Num (Dec zero)

theorem below_set8 {w W : World} {g : Nat} (h : Below w.heap.size w W) (hg : w.heap.size ≤ g) (a b c d e f x y : Value) : Below w.heap.size w ((((((((W.setCell ⟨g, 0, none⟩ a).setCell ⟨g, 1, none⟩ b).setCell ⟨g, 2, none⟩ c).setCell ⟨g, 3, none⟩ d).setCell ⟨g, 4, none⟩ e).setCell ⟨g, 5, none⟩ f).setCell ⟨g, 6, none⟩ x).setCell ⟨g, 7, none⟩ y) :=
  (((((((h.setCell (p := ⟨g, 0, none⟩) hg a).setCell (p := ⟨g, 1, none⟩) hg b).setCell (p := ⟨g, 2, none⟩) hg c).setCell (p := ⟨g, 3, none⟩) hg d).setCell (p := ⟨g, 4, none⟩) hg e).setCell (p := ⟨g, 5, none⟩) hg f).setCell (p := ⟨g, 6, none⟩) hg x).setCell (p := ⟨g, 7, none⟩) hg y
theorem hold_none (w : World) : HoldV w (.agg #[.int .i64 0, .bool false, .bool false, .string ⟨#[]⟩, .int .i64 0, .string ⟨#[]⟩, .slice none 0 0, .slice none 0 0]) none' := by
  refine ⟨cellsV 0 false zero [] (.slice none 0 0) (.slice none 0 0), rfl, ?_⟩
  unfold none'
  rw [Hold]
  exact ⟨_, none, 0, rfl, ⟨none, 0, rfl, Nat.le_refl _, by omega, .inl rfl⟩, Nat.le_refl _, by omega, .inl rfl⟩
theorem find_none {ks : List (List UInt8)} {key : List UInt8} (h : ∀ i, i < ks.length → ks[i]? ≠ some key) : ks.findIdx? (· = key) = none := by
  rw [List.findIdx?_eq_none_iff]
  intro x hx
  obtain ⟨i, hi, e⟩ := List.mem_iff_getElem.1 hx
  have := h i hi
  rw [List.getElem?_eq_getElem hi, e] at this
  simpa using this
theorem find_some {ks : List (List UInt8)} {key : List UInt8} {j : Nat} (hj : j < ks.length) (h : ∀ i, i < j → ks[i]? ≠ some key) (e : ks[j] = key) : ks.findIdx? (· = key) = some j := by
  rw [List.findIdx?_eq_some_iff_getElem]
  refine ⟨hj, by simpa using e, fun i hi => ?_⟩
  have := h i hi
  rw [List.getElem?_eq_getElem (by omega)] at this
  simpa using this

set_option maxRecDepth 100000 in
set_option maxHeartbeats 4000000 in
theorem rget_any {v : Val} {w : World} {u : Value} {key : List UInt8} (h : HoldV w u v) : Calls Tryd.prog 21 #[u, .string (txt key)] w fun e w' => (∃ x, e = .returned (.tuple #[x, .bool (get v key).isSome]) ∧ HoldV w' x ((get v key).getD none')) ∧ Below w.heap.size w w' := by
  obtain ⟨k, b, n, s, ks, vs⟩ := v
  obtain ⟨cs, rfl, hc⟩ := h
  rw [Hold] at hc
  obtain ⟨uk, a, c, rfl, hk, hcap, hmax, hv⟩ := hc
  obtain ⟨pk, ck, rfl, hck, hmk, hxk⟩ := hk
  show Calls Tryd.prog 21 #[.agg #[.int .i64 k, .bool b, .bool n.neg, .string (txt n.dig), .int .i64 n.exp, .string (txt s), .slice pk ks.length ck, .slice a vs.length c], .string (txt key)] w _
  have hA := new_of (World.alloc_heap_new w (.cells #[.int .i64 k, .bool b, .bool n.neg, .string (txt n.dig), .int .i64 n.exp, .string (txt s), .slice pk ks.length ck, .slice a vs.length c] 27)) (.cells #[.int .i64 0, .bool false, .bool false, .string ⟨#[]⟩, .int .i64 0, .string ⟨#[]⟩, .slice none 0 0, .slice none 0 0] 27)
  have hB := World.alloc_heap_new (w.alloc (.cells #[.int .i64 k, .bool b, .bool n.neg, .string (txt n.dig), .int .i64 n.exp, .string (txt s), .slice pk ks.length ck, .slice a vs.length c] 27)) (.cells #[.int .i64 0, .bool false, .bool false, .string ⟨#[]⟩, .int .i64 0, .string ⟨#[]⟩, .slice none 0 0, .slice none 0 0] 27)
  rw [World.size_alloc] at hB
  have bA : Below w.heap.size w ((w.alloc (.cells #[.int .i64 k, .bool b, .bool n.neg, .string (txt n.dig), .int .i64 n.exp, .string (txt s), .slice pk ks.length ck, .slice a vs.length c] 27)).alloc (.cells #[.int .i64 0, .bool false, .bool false, .string ⟨#[]⟩, .int .i64 0, .string ⟨#[]⟩, .slice none 0 0, .slice none 0 0] 27)) := ((Below.refl _ w).alloc (Nat.le_refl _) _).alloc (by simp) _
  by_cases h6 : k = 6
  · subst h6
    have hget : get ⟨6, b, n, s, ks, vs⟩ key = (match ks.findIdx? (· = key) with | some i => vs[i]? | none => none) := by unfold get; exact if_pos rfl
    obtain ⟨c0, c1, c2, c3, c4, c5, c6, c7⟩ := eight hA
    obtain ⟨d0, d1, d2, d3, d4, d5, d6, d7⟩ := eight hB
    have HX := Lib.hid hxk
    have HV := Lib.hid hv
    have HG0 := Lib.hid hget
    clear hv hxk hget
    go_enter Tryd.func21, Tryd.ntmps21
    go_wp2_with fail
    clear c0 c1 c2 c3 c4 c5 c6 c7 d0 d1 d2 d3 d4 d5 d6 d7
    go_loopw [6] (fun y wr => ∃ j : Nat, j ≤ ks.length ∧ y = .int .i64 j ∧ (∀ i, i < j → ks[i]? ≠ some key) ∧ wr.heap[w.heap.size]? = some (.cells #[.int .i64 6, .bool b, .bool n.neg, .string (txt n.dig), .int .i64 n.exp, .string (txt s), .slice pk ks.length ck, .slice a vs.length c] 27 (0, 0)) ∧
      wr.heap[w.heap.size + 1]? = some (.cells #[.int .i64 0, .bool false, .bool false, .string ⟨#[]⟩, .int .i64 0, .string ⟨#[]⟩, .slice none 0 0, .slice none 0 0] 27 (0, 0)) ∧ Below w.heap.size w wr) (fun y _ => ks.length - (intOf y).toNat)
    case atStart => exact ⟨0, Nat.zero_le _, rfl, fun i hi => absurd hi (Nat.not_lt_zero _), hA, hB, bA⟩
    case round =>
      obtain ⟨j, hj, rfl, hno, hA2, hB2, bB⟩ := hrel
      obtain ⟨c0, c1, c2, c3, c4, c5, c6, c7⟩ := eight hA2
      obtain ⟨d0, d1, d2, d3, d4, d5, d6, d7⟩ := eight hB2
      have fr := free_of hB2
      have l1 := lt_of_heap hA2
      have l2 := lt_of_heap hB2
      have HN := Lib.hid hno
      clear hno
      by_cases hlt : j < ks.length
      · have hlt' : (j : Int) < (ks.length : Int) := by omega
        rcases HX.out with h0 | ⟨gk, ok, rfl, hgk, hxk⟩
        · rw [h0] at hlt
          exact absurd hlt (Nat.not_lt_zero _)
        have ck0 := (bB.cell (p := ⟨gk, ok + j, none⟩) hgk).trans (hxk j _ (List.getElem?_eq_getElem hlt))
        have hgkl := Nat.lt_of_lt_of_le hgk bB.size
        clear hxk
        by_cases he : ks[j] = key
        · have hf := find_some hlt HN.out he
          have hget := HG0.out
          rw [hf] at hget
          dsimp only at hget
          rw [he] at ck0
          clear hf he
          by_cases hj2 : j < vs.length
          · have hj2' : (j : Int) < (vs.length : Int) := by omega
            rw [List.getElem?_eq_getElem hj2] at hget
            rcases HV.out with h0 | ⟨g, off, rfl, hg, hx⟩
            · rw [h0] at hj2
              exact absurd hj2 (Nat.not_lt_zero _)
            obtain ⟨cs8, h8, hh⟩ := Holds.at hx (List.getElem?_eq_getElem hj2)
            generalize vs[j] = x at *
            have h8' := h8.below hg bB
            have hh' := hh
            obtain ⟨k1, b1, n1, s1, ks1, vs1⟩ := x
            rw [Hold] at hh'
            obtain ⟨uk1, a1, c1', rfl, hk1, -, -, -⟩ := hh'
            obtain ⟨pk1, ck1, rfl, -, -, -⟩ := hk1
            obtain ⟨x0, x1, x2, x3, x4, x5, x6, x7⟩ := h8'.cells
            have hgl := Nat.lt_of_lt_of_le hg bB.size
            have HG := Lib.hid hget
            have HH := Lib.hid hh
            clear hx h8 h8' hget hh
            go_wp2_with fail
            refine bodyPost_ret (v := .tuple #[.agg #[.int .i64 k1, .bool b1, .bool n1.neg, .string (txt n1.dig), .int .i64 n1.exp, .string (txt s1), .slice pk1 ks1.length ck1, .slice a1 vs1.length c1'], .bool true]) (by simp [results, Tryd.results21, go_sem, *]) rfl ⟨⟨_, by rw [HG.out]; rfl, by rw [HG.out]; exact ⟨_, rfl, Hold.below (below_set8 bB (by omega) _ _ _ _ _ _ _ _) _ HH.out⟩⟩, below_set8 bB (by omega) _ _ _ _ _ _ _ _⟩
          · have hj2' : decide (j < vs.length) = false := by simp; omega
            rw [List.getElem?_eq_none (by omega)] at hget
            have HG := Lib.hid hget
            clear hget
            go_wp2_with fail
            refine bodyPost_ret (v := .tuple #[.agg #[.int .i64 0, .bool false, .bool false, .string ⟨#[]⟩, .int .i64 0, .string ⟨#[]⟩, .slice none 0 0, .slice none 0 0], .bool false]) (by simp [results, Tryd.results21, go_sem, *]) rfl ⟨⟨_, by rw [HG.out]; rfl, by rw [HG.out]; exact hold_none _⟩, below_set8 bB (by omega) _ _ _ _ _ _ _ _⟩
        · have he' := txt_ne he
          have hnext : ∀ i, i < j + 1 → ks[i]? ≠ some key := fun i hi => by
            rcases Nat.lt_succ_iff_lt_or_eq.1 hi with h | rfl
            · exact HN.out i h
            · rw [List.getElem?_eq_getElem hlt]
              simpa using he
          have HM := Lib.hid hnext
          have wk : IntKind.i64.wrap ((j : Int) + 1) = (j : Int) + 1 := by simp only [IntKind.wrap, IntKind.signed, IntKind.bits]; simp; omega
          generalize ks[j] = kj at *
          clear hnext he
          go_wp2_with fail
          go_roundw
          case rel => exact ⟨j + 1, by omega, by go_num, HM.out, hA2, hB2, bB⟩
          case measure => simp [intOf]; omega
      · obtain rfl : j = ks.length := by omega
        have hget := HG0.out
        rw [find_none HN.out] at hget
        have HG := Lib.hid hget
        clear hget
        go_wp2_with fail
        refine bodyPost_ret (v := .tuple #[.agg #[.int .i64 0, .bool false, .bool false, .string ⟨#[]⟩, .int .i64 0, .string ⟨#[]⟩, .slice none 0 0, .slice none 0 0], .bool false]) (by simp [results, Tryd.results21, go_sem, *]) rfl ⟨⟨_, by rw [HG.out]; rfl, by rw [HG.out]; exact hold_none _⟩, below_set8 bB (by omega) _ _ _ _ _ _ _ _⟩
  · have hg : get ⟨k, b, n, s, ks, vs⟩ key = none := by unfold get; exact if_neg h6
    have h6' : (k == 6) = false := by simpa using h6
    rw [hg]
    obtain ⟨c0, c1, c2, c3, c4, c5, c6, c7⟩ := eight hA
    obtain ⟨d0, d1, d2, d3, d4, d5, d6, d7⟩ := eight hB
    clear hv hxk
    go_enter Tryd.func21, Tryd.ntmps21
    go_wp2_with fail
    clear c0 c1 c2 c3 c4 c5 c6 c7 d0 d1 d2 d3 d4 d5 d6 d7
    go_loopw [6] (fun y wr => y = .int .i64 0 ∧ wr.heap[w.heap.size]? = some (.cells #[.int .i64 k, .bool b, .bool n.neg, .string (txt n.dig), .int .i64 n.exp, .string (txt s), .slice pk ks.length ck, .slice a vs.length c] 27 (0, 0)) ∧
      wr.heap[w.heap.size + 1]? = some (.cells #[.int .i64 0, .bool false, .bool false, .string ⟨#[]⟩, .int .i64 0, .string ⟨#[]⟩, .slice none 0 0, .slice none 0 0] 27 (0, 0)) ∧ Below w.heap.size w wr) (fun _ _ => 0)
    case atStart => exact ⟨rfl, hA, hB, bA⟩
    case round =>
      obtain ⟨rfl, hA2, hB2, bB⟩ := hrel
      obtain ⟨c0, c1, c2, c3, c4, c5, c6, c7⟩ := eight hA2
      obtain ⟨d0, d1, d2, d3, d4, d5, d6, d7⟩ := eight hB2
      have fr := free_of hB2
      have l1 := lt_of_heap hA2
      have l2 := lt_of_heap hB2
      by_cases h0 : 0 < ks.length
      · have h0' : (0 : Int) < (ks.length : Int) := by omega
        go_wp2_with fail
        refine bodyPost_ret (v := .tuple #[.agg #[.int .i64 0, .bool false, .bool false, .string ⟨#[]⟩, .int .i64 0, .string ⟨#[]⟩, .slice none 0 0, .slice none 0 0], .bool false]) (by simp [results, Tryd.results21, go_sem, *]) rfl ⟨⟨_, rfl, hold_none _⟩, below_set8 bB (by omega) _ _ _ _ _ _ _ _⟩
      · have h0' : ks.length = 0 := by omega
        go_wp2_with fail
        refine bodyPost_ret (v := .tuple #[.agg #[.int .i64 0, .bool false, .bool false, .string ⟨#[]⟩, .int .i64 0, .string ⟨#[]⟩, .slice none 0 0, .slice none 0 0], .bool false]) (by simp [results, Tryd.results21, go_sem, *]) rfl ⟨⟨_, rfl, hold_none _⟩, below_set8 bB (by omega) _ _ _ _ _ _ _ _⟩
end Go.Proofs.YtjekannajnkejaaDoor.Tre
