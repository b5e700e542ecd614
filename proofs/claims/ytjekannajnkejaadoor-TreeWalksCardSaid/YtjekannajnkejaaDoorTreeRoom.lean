/- The contract of the document's own answer for layer 8 (package tabulariumref08): room. The contract of the document's own answer for layer 8 (package tabulariumref08): Great. Nothing is claimed here. -/
import Derived.Test.YtjekannajnkejaaDoorTreeHold
import Derived.Lib.Hide
namespace Go.Proofs.YtjekannajnkejaaDoor.Tre
open Go.RowKit Kit Txt
open Num (Dec zero)

mutual
/-- No deeper than 70 from so deep on, no text of more than 2000 bytes, no number of more than 1200 digits. -/
def Fine (d : Nat) : Val → Prop
  | ⟨_, _, n, s, ks, vs⟩ => d ≤ 70 ∧ s.length ≤ 2000 ∧ n.dig.length ≤ 1200 ∧ (∀ x ∈ ks, x.length ≤ 2000) ∧ Fines (d + 1) vs
def Fines (d : Nat) : List Val → Prop
  | [] => True
  | v :: r => Fine d v ∧ Fines d r
end
theorem fines_iff {d : Nat} {vs : List Val} : Fines d vs ↔ ∀ v ∈ vs, Fine d v := by
  induction vs with
  | nil => simp [Fines]
  | cons v r ih =>
    rw [Fines, ih]
    simp
mutual
/-- Each list of keys has a length that no sum with small numbers wraps. -/
def Tame : Val → Prop
  | ⟨_, _, _, _, ks, vs⟩ => ks.length ≤ 10000000000000 ∧ Tames vs
def Tames : List Val → Prop
  | [] => True
  | v :: r => Tame v ∧ Tames r
end
theorem tames_iff {vs : List Val} : Tames vs ↔ ∀ v ∈ vs, Tame v := by
  induction vs with
  | nil => simp [Tames]
  | cons v r ih =>
    rw [Tames, ih]
    simp
mutual
/-- How many values and keys. -/
def count : Val → Nat
  | ⟨_, _, _, _, ks, vs⟩ => 1 + ks.length + counts vs
def counts : List Val → Nat
  | [] => 0
  | v :: r => count v + counts r
end
theorem counts_snoc : ∀ (a : List Val) (v : Val), counts (a ++ [v]) = counts a + count v
  | [], v => by simp [counts]
  | x :: a, v => by rw [List.cons_append, counts, counts, counts_snoc a v, Nat.add_assoc]

/-- What room tells. -/
def Told (d : Nat) (v : Val) (z r : Int) : Prop := -9223372036854775808 ≤ r ∧ r ≤ 9223372036854775807 ∧ (0 ≤ r → Fine d v ∧ (Tame v → r + (count v : Int) ≤ z))
theorem told_no (d : Nat) (v : Val) (z : Int) : Told d v z (-1) := ⟨by omega, by omega, fun h => absurd h (by omega)⟩
theorem wrap_range (z : Int) : -9223372036854775808 ≤ IntKind.i64.wrap z ∧ IntKind.i64.wrap z ≤ 9223372036854775807 := by
  simp only [IntKind.wrap, IntKind.signed, IntKind.bits]
  simp
  omega
theorem wrap_id {z : Int} (h1 : -9223372036854775808 ≤ z) (h2 : z ≤ 9223372036854775807) : IntKind.i64.wrap z = z := by
  simp only [IntKind.wrap, IntKind.signed, IntKind.bits]
  simp
  omega

set_option maxRecDepth 100000 in
set_option maxHeartbeats 8000000 in
theorem rroom_any : ∀ (v : Val) (w : World) (u : Value) (d : Nat) (z : Int), d ≤ 71 → 0 ≤ z → z ≤ 9223372036854775807 → HoldV w u v → Calls Tryd.prog 25 #[u, .int .i64 d, .int .i64 z] w fun e w' => (∃ r : Int, e = .returned (.int .i64 r) ∧ Told d v z r) ∧ Below w.heap.size w w' := by
  refine ind1 fun v ih w u d z hd hz0 hz1 h => ?_
  have HT0 := Lib.hid (told_no d v z)
  obtain ⟨k, b, n, s, ks, vs⟩ := v
  obtain ⟨cs, rfl, hc⟩ := h
  rw [Hold] at hc
  obtain ⟨uk, a, c, rfl, hk, hcap, hmax, hv⟩ := hc
  obtain ⟨pk, ck, rfl, hck, hmk, hxk⟩ := hk
  show Calls Tryd.prog 25 #[.agg #[.int .i64 k, .bool b, .bool n.neg, .string (txt n.dig), .int .i64 n.exp, .string (txt s), .slice pk ks.length ck, .slice a vs.length c], .int .i64 d, .int .i64 z] w _
  have hA := World.alloc_heap_new w (.cells #[.int .i64 k, .bool b, .bool n.neg, .string (txt n.dig), .int .i64 n.exp, .string (txt s), .slice pk ks.length ck, .slice a vs.length c] 27)
  have bA : Below w.heap.size w (w.alloc (.cells #[.int .i64 k, .bool b, .bool n.neg, .string (txt n.dig), .int .i64 n.exp, .string (txt s), .slice pk ks.length ck, .slice a vs.length c] 27)) := (Below.refl _ w).alloc (Nat.le_refl _) _
  obtain ⟨c0, c1, c2, c3, c4, c5, c6, c7⟩ := eight hA
  have hss := txt_size s
  have hsn := txt_size n.dig
  by_cases hbad : 70 < d ∨ 2000 < s.length ∨ 1200 < n.dig.length
  · have hcs : (70 : Int) < (d : Int) ∨ (decide ((70 : Int) < (d : Int)) = false ∧ (2000 : Int) < (s.length : Int)) ∨ (decide ((70 : Int) < (d : Int)) = false ∧ decide ((2000 : Int) < (s.length : Int)) = false ∧ (1200 : Int) < (n.dig.length : Int)) := by
      simp
      omega
    clear hxk hv ih hbad
    rcases hcs with e1 | ⟨e1, e2⟩ | ⟨e1, e2, e3⟩
    all_goals
      go_enter Tryd.func25, Tryd.ntmps25
      go_wp2_with fail
      go_ret
      exact ⟨⟨_, rfl, HT0.out⟩, bA⟩
  · have e1 : decide ((70 : Int) < (d : Int)) = false := by simp; omega
    have e2 : decide ((2000 : Int) < (s.length : Int)) = false := by simp; omega
    have e3 : decide ((1200 : Int) < (n.dig.length : Int)) = false := by simp; omega
    obtain ⟨m, hm⟩ : ∃ m : Nat, s.length + n.dig.length = m := ⟨_, rfl⟩
    obtain ⟨q, hq⟩ : ∃ q : Nat, m / 50 = q := ⟨_, rfl⟩
    have w1 : IntKind.i64.wrap (z - 1) = z - 1 := wrap_id (by omega) (by omega)
    have w2 : IntKind.i64.wrap ((s.length : Int) + (n.dig.length : Int)) = (m : Int) := by rw [wrap_id (by omega) (by omega)]; omega
    have w3 : (m : Int).tdiv 50 = (q : Int) := by rw [Int.tdiv_eq_ediv_of_nonneg (by omega)]; omega
    have w3' : (m : Int) / 50 = (q : Int) := by omega
    have w4 : IntKind.i64.wrap (q : Int) = (q : Int) := wrap_id (by omega) (by omega)
    obtain ⟨L0, w5⟩ : ∃ L, IntKind.i64.wrap (z - 1 - (ks.length : Int)) = L := ⟨_, rfl⟩
    obtain ⟨L, w6⟩ : ∃ L, IntKind.i64.wrap (L0 - (q : Int)) = L := ⟨_, rfl⟩
    have hLr := wrap_range (L0 - (q : Int))
    rw [w6] at hLr
    have hLt : ks.length ≤ 10000000000000 → L ≤ z - 1 - (ks.length : Int) := fun h => by
      have f1 : L0 = z - 1 - (ks.length : Int) := by rw [← w5, wrap_id (by omega) (by omega)]
      have f2 : L = L0 - (q : Int) := by rw [← w6, wrap_id (by omega) (by omega)]
      omega
    have HLt := Lib.hid hLt
    have HB := Lib.hid hbad
    clear hLt hbad
    go_enter Tryd.func25, Tryd.ntmps25
    go_wp2_with fail
    clear c0 c1 c2 c3 c4 c5 c6 c7 w1 w2 w3 w3' w4 w5 w6 e1 e2 e3 hm hq
    have HX := Lib.hid hxk
    have HV := Lib.hid hv
    clear hxk hv
    go_loopw [2, 7] (fun x y wr => ∃ (L' : Int) (j : Nat), j ≤ ks.length ∧ x = .int .i64 L' ∧ y = .int .i64 j ∧ -9223372036854775808 ≤ L' ∧ L' ≤ 9223372036854775807 ∧ (∀ t ∈ ks.take j, t.length ≤ 2000) ∧ (ks.length ≤ 10000000000000 → L' ≤ z - 1 - (ks.length : Int)) ∧ wr.heap[w.heap.size]? = some (.cells #[.int .i64 k, .bool b, .bool n.neg, .string (txt n.dig), .int .i64 n.exp, .string (txt s), .slice pk ks.length ck, .slice a vs.length c] 27 (0, 0)) ∧ Below w.heap.size w wr) (fun _ y _ => ks.length - (intOf y).toNat)
    case atStart => exact ⟨L, 0, Nat.zero_le _, rfl, rfl, hLr.1, hLr.2, fun t ht => absurd ht (by simp), HLt.out, hA, bA⟩
    case round =>
      obtain ⟨L', j, hj, rfl, rfl, hr1, hr2, hks, hle, hA2, bB⟩ := hrel
      clear hA bA hLr
      obtain ⟨c0, c1, c2, c3, c4, c5, c6, c7⟩ := eight hA2
      have hal := lt_of_heap hA2
      have HK := Lib.hid hks
      have HLe := Lib.hid hle
      clear hks hle
      by_cases hgo : j < ks.length ∧ 0 ≤ L'
      · obtain ⟨hlt, hL0⟩ := hgo
        have hlt' : (j : Int) < (ks.length : Int) := by omega
        rcases HX.out with h0 | ⟨gk, ok, rfl, hgk, hxk⟩
        · rw [h0] at hlt
          exact absurd hlt (Nat.not_lt_zero _)
        have ck0 := (bB.cell (p := ⟨gk, ok + j, none⟩) hgk).trans (hxk j _ (List.getElem?_eq_getElem hlt))
        have hgkl := Nat.lt_of_lt_of_le hgk bB.size
        have HT := Lib.hid (List.take_succ_eq_append_getElem hlt)
        clear hxk
        generalize ks[j] = t at *
        have hts := txt_size t
        have wk : IntKind.i64.wrap ((j : Int) + 1) = (j : Int) + 1 := wrap_id (by omega) (by omega)
        by_cases h2 : 2000 < t.length
        · have h2' : (2000 : Int) < (t.length : Int) := by omega
          go_wp2_with fail
          go_ret
          exact ⟨⟨_, rfl, HT0.out⟩, bB⟩
        · have h2' : decide ((2000 : Int) < (t.length : Int)) = false := by simp; omega
          obtain ⟨p, hp⟩ : ∃ p : Nat, t.length / 50 = p := ⟨_, rfl⟩
          have v3 : (t.length : Int).tdiv 50 = (p : Int) := by rw [Int.tdiv_eq_ediv_of_nonneg (by omega)]; omega
          have v3' : (t.length : Int) / 50 = (p : Int) := by omega
          have v4 : IntKind.i64.wrap (p : Int) = (p : Int) := wrap_id (by omega) (by omega)
          have v5 : IntKind.i64.wrap (L' - (p : Int)) = L' - (p : Int) := wrap_id (by omega) (by omega)
          have hnext : ∀ x ∈ ks.take (j + 1), x.length ≤ 2000 := fun x hx => by
            rw [HT.out] at hx
            rcases List.mem_append.1 hx with hx | hx
            · exact HK.out x hx
            · rw [List.mem_singleton.1 hx]
              omega
          have hle2 : ks.length ≤ 10000000000000 → L' - (p : Int) ≤ z - 1 - (ks.length : Int) := fun h => by
            have := HLe.out h
            omega
          have HN := Lib.hid hnext
          have HL2 := Lib.hid hle2
          clear hnext hle2 hp
          go_wp2_with fail
          go_roundw
          case rel => exact ⟨L' - (p : Int), j + 1, by omega, rfl, by go_num, by omega, by omega, HN.out, HL2.out, hA2, bB⟩
          case measure => simp [intOf]; omega
      · have hall : 0 ≤ L' → ∀ t ∈ ks, t.length ≤ 2000 := fun h t ht => HK.out t (by rw [List.take_of_length_le (by omega)]; exact ht)
        have HA := Lib.hid hall
        have hcs : decide (j < ks.length) = false ∨ ((j : Int) < (ks.length : Int) ∧ decide (0 ≤ L') = false) := by
          simp
          omega
        clear hall hgo
        rcases hcs with g1 | ⟨g1, g2⟩
        all_goals
          go_wp2_with fail
          clear c0 c1 c2 c3 c4 c5 c6 c7
          go_loopw [2, 8] (fun x y wr => ∃ (M : Int) (i : Nat), i ≤ vs.length ∧ x = .int .i64 M ∧ y = .int .i64 i ∧ -9223372036854775808 ≤ M ∧ M ≤ 9223372036854775807 ∧ (0 ≤ M → 0 ≤ L' ∧ (∀ t ∈ vs.take i, Fine (d + 1) t) ∧ ((∀ t ∈ vs, Tame t) → M + (counts (vs.take i) : Int) ≤ L')) ∧ wr.heap[w.heap.size]? = some (.cells #[.int .i64 k, .bool b, .bool n.neg, .string (txt n.dig), .int .i64 n.exp, .string (txt s), .slice pk ks.length ck, .slice a vs.length c] 27 (0, 0)) ∧ Below w.heap.size w wr) (fun _ y _ => vs.length - (intOf y).toNat)
          case atStart => exact ⟨L', 0, Nat.zero_le _, rfl, rfl, hr1, hr2, fun h => ⟨h, fun t ht => absurd ht (by simp), fun _ => by simp [counts]⟩, hA2, bB⟩
          case round =>
            obtain ⟨M, i, hi, rfl, rfl, m1, m2, hM, hA3, bC⟩ := hrel
            clear hA2 bB hal
            obtain ⟨c0, c1, c2, c3, c4, c5, c6, c7⟩ := eight hA3
            have hal := lt_of_heap hA3
            have HM := Lib.hid hM
            clear hM g1
            by_cases hgo : i < vs.length ∧ 0 ≤ M
            · obtain ⟨hlt, hM0⟩ := hgo
              have hlt' : (i : Int) < (vs.length : Int) := by omega
              rcases HV.out with h0 | ⟨g, off, rfl, hg, hx⟩
              · rw [h0] at hlt
                exact absurd hlt (Nat.not_lt_zero _)
              obtain ⟨cs8, h8, hh⟩ := Holds.at hx (List.getElem?_eq_getElem hlt)
              have hcall := fun wx u (h : HoldV wx u vs[i]) => ih vs[i] (List.getElem_mem hlt) wx u (d + 1) M (by have := HB.out; omega) hM0 m2 h
              have HMem := Lib.hid (show vs[i] ∈ vs from List.getElem_mem hlt)
              have HTk := Lib.hid (List.take_succ_eq_append_getElem hlt)
              generalize vs[i] = x at *
              have h8' := h8.below hg bC
              have hh' := Hold.below bC x hh
              clear hh h8 hx
              have hh2 := hh'
              obtain ⟨k', b', n', s', ks', vs'⟩ := x
              rw [Hold] at hh2
              obtain ⟨uk', a', c', rfl, -, -, -, -⟩ := hh2
              obtain ⟨d0, d1, d2, d3, d4, d5, d6, d7⟩ := h8'.cells
              have hcall' := hcall wr (.agg #[.int .i64 k', .bool b', .bool n'.neg, .string (txt n'.dig), .int .i64 n'.exp, .string (txt s'), uk', .slice a' vs'.length c']) ⟨_, rfl, hh'⟩
              clear hh' h8' hcall
              have hgl := Nat.lt_of_lt_of_le hg bC.size
              have wk : IntKind.i64.wrap ((i : Int) + 1) = (i : Int) + 1 := wrap_id (by omega) (by omega)
              have wd : IntKind.i64.wrap ((d : Int) + 1) = ((d + 1 : Nat) : Int) := by rw [wrap_id (by omega) (by omega)]; omega
              have HI := Lib.hid ih
              clear ih
              go_wp2_with fail
              refine hcall'.mono ?_
              rintro e w2 ⟨⟨r, rfl, hr⟩, k2⟩
              have b2 := bC.trans (k2.mono bC.size)
              have hA4 := (k2.block _ hal).trans hA3
              have hnew : 0 ≤ r → 0 ≤ L' ∧ (∀ t ∈ vs.take (i + 1), Fine (d + 1) t) ∧ ((∀ t ∈ vs, Tame t) → r + (counts (vs.take (i + 1)) : Int) ≤ L') := fun h => by
                obtain ⟨f1, f2⟩ := hr.2.2 h
                obtain ⟨f3, f4, f5⟩ := HM.out hM0
                rw [HTk.out]
                refine ⟨f3, fun t ht => ?_, fun ht => ?_⟩
                · rcases List.mem_append.1 ht with ht | ht
                  · exact f4 t ht
                  · rw [List.mem_singleton.1 ht]
                    exact f1
                · rw [counts_snoc]
                  have := f5 ht
                  have := f2 (ht _ HMem.out)
                  omega
              have HNew := Lib.hid hnew
              have r1 := hr.1
              have r2 := hr.2.1
              clear hnew hr
              go_wp2_with fail
              go_roundw
              case rel => exact ⟨r, i + 1, by omega, rfl, by go_num, r1, r2, HNew.out, hA4, b2⟩
              case measure => simp [intOf]; omega
            · have hend : Told d ⟨k, b, n, s, ks, vs⟩ z M := by
                refine ⟨m1, m2, fun h => ?_⟩
                obtain ⟨f3, f4, f5⟩ := HM.out h
                rw [List.take_of_length_le (by omega)] at f4 f5
                have hbd := HB.out
                refine ⟨?_, fun ht => ?_⟩
                · rw [Fine, fines_iff]
                  exact ⟨by omega, by omega, by omega, HA.out f3, f4⟩
                · rw [Tame, tames_iff] at ht
                  have := f5 ht.2
                  have := HLe.out ht.1
                  rw [count]
                  omega
              have HEnd := Lib.hid hend
              have hcs : decide (i < vs.length) = false ∨ ((i : Int) < (vs.length : Int) ∧ decide (0 ≤ M) = false) := by
                simp
                omega
              clear hend hgo
              rcases hcs with q1 | ⟨q1, q2⟩
              all_goals
                go_wp2_with fail
                go_ret
                exact ⟨⟨_, rfl, HEnd.out⟩, bC⟩
end Go.Proofs.YtjekannajnkejaaDoor.Tre
namespace Go.Proofs.YtjekannajnkejaaDoor.Tre
open Go.RowKit Kit Txt
open Num (Dec zero)

set_option maxRecDepth 100000 in
set_option maxHeartbeats 4000000 in
theorem rgreat_any {v : Val} {w : World} {u : Value} (h : HoldV w u v) : Calls Tryd.prog 9 #[u] w fun e w' => (∃ r : Bool, e = .returned (.bool r) ∧ (r = false → Fine 1 v ∧ (Tame v → count v ≤ 400))) ∧ Below w.heap.size w w' := by
  have hr := fun wx (hb : Below w.heap.size w wx) => rroom_any v wx u 1 400 (by omega) (by omega) (by omega) (h.below hb)
  obtain ⟨k, b, n, s, ks, vs⟩ := v
  obtain ⟨cs, rfl, hc⟩ := h
  rw [Hold] at hc
  obtain ⟨uk, a, c, rfl, -, -, -, -⟩ := hc
  have hr' : ∀ wx, Below w.heap.size w wx → Calls Tryd.prog 25 #[.agg #[.int .i64 k, .bool b, .bool n.neg, .string (txt n.dig), .int .i64 n.exp, .string (txt s), uk, .slice a vs.length c], .int .i64 1, .int .i64 400] wx fun e w' => (∃ r : Int, e = .returned (.int .i64 r) ∧ Told 1 ⟨k, b, n, s, ks, vs⟩ 400 r) ∧ Below wx.heap.size wx w' := hr
  show Calls Tryd.prog 9 #[.agg #[.int .i64 k, .bool b, .bool n.neg, .string (txt n.dig), .int .i64 n.exp, .string (txt s), uk, .slice a vs.length c]] w _
  have hA := World.alloc_heap_new w (.cells #[.int .i64 k, .bool b, .bool n.neg, .string (txt n.dig), .int .i64 n.exp, .string (txt s), uk, .slice a vs.length c] 27)
  have bA : Below w.heap.size w (w.alloc (.cells #[.int .i64 k, .bool b, .bool n.neg, .string (txt n.dig), .int .i64 n.exp, .string (txt s), uk, .slice a vs.length c] 27)) := (Below.refl _ w).alloc (Nat.le_refl _) _
  obtain ⟨c0, c1, c2, c3, c4, c5, c6, c7⟩ := eight hA
  clear hr
  go_enter Tryd.func9, Tryd.ntmps9
  go_wp2_with fail
  refine (hr' _ bA).mono ?_
  rintro e w1 ⟨⟨r, rfl, ht⟩, k1⟩
  have b1 := bA.trans (k1.mono bA.size)
  have HT := Lib.hid ht.2.2
  clear ht
  go_wp2_with fail
  go_ret
  refine ⟨⟨decide (r < 0), by simp, fun h => ?_⟩, b1⟩
  have h0 : 0 ≤ r := by simpa using h
  have := HT.out h0
  exact ⟨this.1, fun t => by have := this.2 t; omega⟩
end Go.Proofs.YtjekannajnkejaaDoor.Tre
